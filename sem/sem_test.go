package sem

import (
	"math"
	"math/big"
	"slices"
	"sync"
	"testing"

	"breakwater/api"
	"breakwater/term"
)

// operators are those that terms have.
var operators = []int{api.OpAdd, api.OpSub, api.OpMul, api.OpUdiv, api.OpUrem, api.OpAnd, api.OpOr, api.OpXor,
	api.OpShl, api.OpShr, api.OpSar, api.OpEq, api.OpUlt, api.OpSlt, api.OpNot, api.OpNeg,
	api.TermConst, api.TermVar, api.TermIte, api.TermExt, api.TermCat, api.TermZext, api.TermSext}

// widths are those at which something may go wrong.
var widths = []int{1, 2, 8, 63, 64}

// noTerms are numbers that no term of d has.
func noTerms(d *term.Dag) []int {
	return []int{math.MinInt, math.MinInt + 1, math.MinInt32, -api.MaxTerms, -2, -1, d.Len(), d.Len() + 1,
		api.MaxTerms, api.MaxTerms + 1, math.MaxInt32, math.MaxInt - 1, math.MaxInt}
}

// must is the term that a call made.
func must(t *testing.T) func(int, api.Errno) int {
	return func(id int, e api.Errno) int {
		t.Helper()
		if e != api.OK {
			t.Fatalf("a term was not made: %d", e)
		}
		return id
	}
}

// nodes are all terms of d.
func nodes(d *term.Dag) []api.Node {
	var all []api.Node
	for id := range d.Len() {
		n, _ := d.Node(id)
		all = append(all, n)
	}
	return all
}

func unchanged(t *testing.T, d *term.Dag, was []api.Node) {
	t.Helper()
	if !slices.Equal(nodes(d), was) {
		t.Fatalf("a call changed the terms")
	}
}

// is asks for a word twice, and that env is as it was, also behind its end.
func is(t *testing.T, d *term.Dag, id int, env []uint64, want uint64) {
	t.Helper()
	n, _ := d.Node(id)
	whole := append(slices.Clone(env), 1<<63+5, 7)
	was := slices.Clone(whole)
	for range 2 {
		x, e := Value(d, id, whole[:len(env)])
		if x != want || e != api.OK {
			t.Errorf("Value(%d %+v) = %#x, %d, want %#x", id, n, x, e, want)
		}
		if n.Width < 64 && x>>n.Width != 0 {
			t.Errorf("Value(%d %+v) = %#x, which is too wide", id, n, x)
		}
	}
	if !slices.Equal(whole, was) {
		t.Errorf("Value(%d %+v) changed env to %v", id, n, whole)
	}
}

func hasVars(t *testing.T, d *term.Dag, id int, want ...int) {
	t.Helper()
	first, again := Vars(d, id), Vars(d, id)
	if !slices.Equal(first, want) || !slices.Equal(again, want) {
		t.Fatalf("Vars(%d) = %v, then %v, want %v", id, first, again, want)
	}
}

func hasSize(t *testing.T, d *term.Dag, id, want int) {
	t.Helper()
	first, again := Size(d, id), Size(d, id)
	if first != want || again != want {
		t.Fatalf("Size(%d) = %d, then %d, want %d", id, first, again, want)
	}
}

// isNone asks that all three calls tell of id that it is no term.
func isNone(t *testing.T, d *term.Dag, id int) {
	t.Helper()
	for _, env := range [][]uint64{nil, {}, {7}, make([]uint64, 300)} {
		if x, e := Value(d, id, env); x != 0 || e != api.ErrTerm {
			t.Errorf("Value(%d) = %d, %d, want 0, ErrTerm", id, x, e)
		}
	}
	if v := Vars(d, id); len(v) != 0 {
		t.Errorf("Vars(%d) = %v of none", id, v)
	}
	if n := Size(d, id); n != 0 {
		t.Errorf("Size(%d) = %d of none", id, n)
	}
}

func mask(w int) uint64 { return ^uint64(0) >> (64 - w) }

// wordsOf are words of w bits at which something may go wrong.
func wordsOf(w int) []uint64 {
	var all []uint64
	for _, x := range []uint64{0, 1, 2, 3, 5, 7, 8, 62, 63, 64, 65, 127, 128, 200, 255, 1 << 32, 0x123456789abcdef0,
		mask(w), mask(w) - 1, mask(w) >> 1, mask(w)>>1 + 1, mask(w)>>1 + 2, uint64(w), uint64(w) - 1, uint64(w) + 1} {
		all = append(all, x&mask(w))
	}
	slices.Sort(all)
	return slices.Compact(all)
}

// Promise 16.1: the chapter's example.

func TestExample(t *testing.T) {
	d, ok := term.New(9), must(t)
	x := ok(d.Var(8, 0))
	sum := ok(d.Binary(api.OpAdd, x, ok(d.Const(8, 1))))
	is(t, d, sum, []uint64{255}, 0)
	is(t, d, sum, []uint64{254}, 255)
	is(t, d, sum, nil, 1)
	hasVars(t, d, sum, 0)
	hasSize(t, d, sum, 3)
}

// Promise 16.1: Value.

func TestNone(t *testing.T) {
	d, ok := term.New(9), must(t)
	for _, id := range append(noTerms(d), 0) {
		isNone(t, d, id)
	}
	x := ok(d.Var(8, 0))
	ok(d.Binary(api.OpMul, x, ok(d.Const(8, 3))))
	was := nodes(d)
	for _, id := range noTerms(d) {
		isNone(t, d, id)
	}
	unchanged(t, d, was)
}

// No number is a term of no dag.
func TestNil(t *testing.T) {
	for _, id := range append(noTerms(nil), 0, 1, 8) {
		isNone(t, nil, id)
		isNone(t, new(term.Dag), id)
		isNone(t, term.New(-1), id)
	}
}

func TestConst(t *testing.T) {
	for w := 1; w <= api.MaxWidth; w++ {
		d, ok := term.New(100), must(t)
		for _, x := range wordsOf(w) {
			id := ok(d.Const(w, x))
			for _, env := range [][]uint64{nil, {77, 78}} {
				is(t, d, id, env, x)
			}
			hasVars(t, d, id)
			hasSize(t, d, id, 1)
		}
		is(t, d, ok(d.Const(w, ^uint64(0))), nil, mask(w))
	}
}

func TestVar(t *testing.T) {
	for w := 1; w <= api.MaxWidth; w++ {
		d, ok := term.New(1000), must(t)
		for _, i := range []int{0, 1, 2, 100, 254, api.MaxInputs - 1} {
			id := ok(d.Var(w, i))
			for _, x := range []uint64{0, 1, mask(w), ^uint64(0), 0xfedcba9876543211, 1 << 63} {
				for _, more := range []int{1, 2, 300} {
					env := slices.Repeat([]uint64{^x}, i+more)
					env[i] = x
					is(t, d, id, env, x&mask(w))
				}
				// It ends just ahead of the variable.
				is(t, d, id, slices.Repeat([]uint64{x}, i), 0)
				is(t, d, id, slices.Repeat([]uint64{x}, i/2), 0)
			}
			is(t, d, id, nil, 0)
			is(t, d, id, []uint64{}, 0)
			hasVars(t, d, id, i)
			hasSize(t, d, id, 1)
		}
	}
}

// The words of variables are those at their places, not in the order in which
// they came to be.
func TestVarsByPlace(t *testing.T) {
	d, ok := term.New(1000), must(t)
	env := make([]uint64, api.MaxInputs)
	var ids []int
	for i := range env {
		env[i] = uint64(i)*0x9e3779b97f4a7c15 + 1
	}
	for i := api.MaxInputs - 1; i >= 0; i-- {
		ids = append(ids, ok(d.Var(64, i)))
	}
	for at, id := range ids {
		is(t, d, id, env, env[api.MaxInputs-1-at])
	}
}

// Each operator of two, at each width, of words and of variables.
func TestBinary(t *testing.T) {
	for op := api.OpAdd; op <= api.OpSlt; op++ {
		for _, w := range widths {
			d, ok := term.New(api.MaxTerms), must(t)
			vars := ok(d.Binary(op, ok(d.Var(w, 0)), ok(d.Var(w, 1))))
			turned := ok(d.Binary(op, ok(d.Var(w, 1)), ok(d.Var(w, 0))))
			for _, a := range wordsOf(w) {
				same := ok(d.Binary(op, ok(d.Const(w, a)), ok(d.Const(w, a))))
				is(t, d, same, nil, plainTwo(op, w, a, a))
				for _, b := range wordsOf(w) {
					want := plainTwo(op, w, a, b)
					is(t, d, ok(d.Binary(op, ok(d.Const(w, a)), ok(d.Const(w, b)))), nil, want)
					is(t, d, vars, []uint64{a, b}, want)
					is(t, d, turned, []uint64{b, a}, want)
					// What is above the width is cut off.
					is(t, d, vars, []uint64{a | ^mask(w), b | ^mask(w)}, want)
				}
			}
		}
	}
}

func plainTwo(op, w int, a, b uint64) uint64 {
	wide := w
	if op >= api.OpEq {
		wide = 1
	}
	return rest(plainBinary(op, w, number(a), number(b)), wide).Uint64()
}

// What operators of two tell, written out.
func TestBinaryByHand(t *testing.T) {
	for _, c := range []struct {
		op, w      int
		a, b, want uint64
	}{
		{api.OpAdd, 1, 1, 1, 0}, {api.OpAdd, 8, 200, 100, 44}, {api.OpAdd, 64, math.MaxUint64, 2, 1},
		{api.OpSub, 8, 1, 2, 255}, {api.OpSub, 63, 0, 1, 1<<63 - 1}, {api.OpSub, 64, 0, 1, math.MaxUint64},
		{api.OpMul, 8, 16, 17, 16}, {api.OpMul, 64, 1 << 32, 1<<32 + 1, 1 << 32},
		{api.OpUdiv, 8, 200, 7, 28}, {api.OpUdiv, 8, 9, 0, 255}, {api.OpUdiv, 1, 0, 0, 1}, {api.OpUdiv, 63, 5, 0, 1<<63 - 1},
		{api.OpUdiv, 64, 5, 0, math.MaxUint64}, {api.OpUrem, 8, 200, 7, 4}, {api.OpUrem, 8, 9, 0, 9}, {api.OpUrem, 64, 1 << 63, 0, 1 << 63},
		{api.OpAnd, 8, 12, 10, 8}, {api.OpOr, 8, 12, 10, 14}, {api.OpXor, 8, 12, 10, 6},
		{api.OpShl, 8, 3, 7, 128}, {api.OpShl, 8, 3, 8, 0}, {api.OpShl, 8, 3, 255, 0}, {api.OpShl, 64, 3, 63, 1 << 63}, {api.OpShl, 64, 3, 64, 0},
		{api.OpShr, 8, 192, 7, 1}, {api.OpShr, 8, 192, 8, 0}, {api.OpShr, 64, math.MaxUint64, 64, 0}, {api.OpShr, 64, 1 << 63, 63, 1},
		{api.OpSar, 4, 8, 1, 12}, {api.OpSar, 8, 128, 7, 255}, {api.OpSar, 8, 128, 8, 255}, {api.OpSar, 8, 128, 200, 255}, {api.OpSar, 8, 127, 8, 0},
		{api.OpSar, 64, 1 << 63, math.MaxUint64, math.MaxUint64}, {api.OpSar, 1, 1, 1, 1},
		{api.OpEq, 8, 2, 2, 1}, {api.OpEq, 8, 2, 3, 0}, {api.OpEq, 64, 1 << 63, 0, 0},
		{api.OpUlt, 8, 2, 4, 1}, {api.OpUlt, 8, 4, 2, 0}, {api.OpUlt, 8, 2, 2, 0}, {api.OpUlt, 8, 255, 0, 0},
		{api.OpSlt, 8, 255, 0, 1}, {api.OpSlt, 8, 0, 255, 0}, {api.OpSlt, 8, 2, 4, 1}, {api.OpSlt, 1, 1, 0, 1}, {api.OpSlt, 64, 1 << 63, 1<<63 - 1, 1},
	} {
		d, ok := term.New(9), must(t)
		id := ok(d.Binary(c.op, ok(d.Var(c.w, 0)), ok(d.Var(c.w, 1))))
		is(t, d, id, []uint64{c.a, c.b}, c.want)
	}
}

func TestUnary(t *testing.T) {
	for _, w := range widths {
		d, ok := term.New(1000), must(t)
		v := ok(d.Var(w, 0))
		not, neg := ok(d.Unary(api.OpNot, v)), ok(d.Unary(api.OpNeg, v))
		both, twice := ok(d.Unary(api.OpNot, neg)), ok(d.Unary(api.OpNot, not))
		for _, x := range wordsOf(w) {
			env := []uint64{x}
			is(t, d, not, env, mask(w)-x)
			is(t, d, neg, env, (mask(w)-x+1)&mask(w))
			is(t, d, both, env, (x-1)&mask(w))
			is(t, d, twice, env, x)
			is(t, d, ok(d.Unary(api.OpNot, ok(d.Const(w, x)))), nil, mask(w)-x)
		}
	}
}

func TestIte(t *testing.T) {
	for _, w := range widths {
		d, ok := term.New(1000), must(t)
		c, a, b := ok(d.Var(1, 0)), ok(d.Var(w, 1)), ok(d.Var(w, 2))
		id, turned, same := ok(d.Ite(c, a, b)), ok(d.Ite(c, b, a)), ok(d.Ite(c, b, b))
		for _, x := range wordsOf(w) {
			y := x ^ mask(w)
			is(t, d, id, []uint64{1, x, y}, x)
			is(t, d, id, []uint64{0, x, y}, y)
			is(t, d, turned, []uint64{1, x, y}, y)
			is(t, d, turned, []uint64{0, x, y}, x)
			is(t, d, same, []uint64{1, x, y}, y)
			is(t, d, same, []uint64{0, x, y}, y)
			// Of the condition, too, the lowest bit alone counts.
			is(t, d, id, []uint64{6, x, y}, y)
			is(t, d, id, []uint64{7, x, y}, x)
		}
		is(t, d, ok(d.Ite(ok(d.Const(1, 1)), a, b)), []uint64{0, 1}, 1)
		is(t, d, ok(d.Ite(ok(d.Const(1, 0)), a, b)), []uint64{1, 1}, 0)
	}
	// A condition that is a compare, and parts that are conditions.
	d, ok := term.New(100), must(t)
	x, y := ok(d.Var(8, 0)), ok(d.Var(8, 1))
	less, same := ok(d.Binary(api.OpUlt, x, y)), ok(d.Binary(api.OpEq, x, y))
	id := ok(d.Ite(less, same, less))
	is(t, d, id, []uint64{1, 2}, 0)
	is(t, d, id, []uint64{2, 2}, 0)
	is(t, d, ok(d.Ite(less, less, same)), []uint64{2, 2}, 1)
	is(t, d, ok(d.Ite(same, x, y)), []uint64{3, 2}, 2)
}

// Where the lowest bits, the highest and all of them are asked for.
func TestExtract(t *testing.T) {
	for _, wide := range widths {
		for lo := range wide {
			d, ok := term.New(1000), must(t)
			a := ok(d.Var(wide, 0))
			for _, w := range []int{1, (wide - lo + 1) / 2, wide - lo} {
				id := ok(d.Extract(a, lo, w))
				for _, x := range append(wordsOf(wide), 0x8badf00d12345679, ^uint64(0)) {
					is(t, d, id, []uint64{x}, plainBits(x, lo, w))
				}
			}
		}
	}
	d, ok := term.New(100), must(t)
	a := ok(d.Const(64, 0xfedcba9876543210))
	for _, c := range []struct {
		lo, w int
		want  uint64
	}{{0, 4, 0}, {4, 4, 1}, {60, 4, 15}, {56, 8, 0xfe}, {63, 1, 1}, {0, 1, 0}, {0, 64, 0xfedcba9876543210}, {1, 63, 0x7f6e5d4c3b2a1908}} {
		is(t, d, ok(d.Extract(a, c.lo, c.w)), nil, c.want)
	}
}

// plainBits takes w bits of x from lo on, one by one.
func plainBits(x uint64, lo, w int) uint64 {
	y := new(big.Int)
	for i := range w {
		y.SetBit(y, i, number(x).Bit(lo+i))
	}
	return y.Uint64()
}

func TestConcat(t *testing.T) {
	for _, c := range [][2]int{{1, 1}, {1, 2}, {2, 1}, {8, 8}, {1, 63}, {63, 1}, {32, 32}, {8, 56}, {56, 8}, {62, 2}, {31, 32}} {
		d, ok := term.New(1000), must(t)
		a, b := ok(d.Var(c[0], 0)), ok(d.Var(c[1], 1))
		id, turned := ok(d.Concat(a, b)), ok(d.Concat(b, a))
		for _, x := range wordsOf(c[0]) {
			for _, y := range wordsOf(c[1]) {
				is(t, d, id, []uint64{x, y}, x<<c[1]+y)
				is(t, d, turned, []uint64{x, y}, y<<c[0]+x)
			}
		}
	}
	d, ok := term.New(100), must(t)
	a, b := ok(d.Const(8, 0x12)), ok(d.Const(4, 0xf))
	is(t, d, ok(d.Concat(a, b)), nil, 0x12f)
	is(t, d, ok(d.Concat(b, a)), nil, 0xf12)
	is(t, d, ok(d.Concat(a, a)), nil, 0x1212)
}

func TestExtend(t *testing.T) {
	for wide := 1; wide < api.MaxWidth; wide++ {
		d, ok := term.New(1000), must(t)
		a := ok(d.Var(wide, 0))
		for _, w := range []int{wide + 1, (wide + 65) / 2, 63, 64} {
			if w <= wide {
				continue
			}
			zero, sign := ok(d.Extend(a, w, false)), ok(d.Extend(a, w, true))
			for _, x := range wordsOf(wide) {
				is(t, d, zero, []uint64{x}, x)
				above := mask(w) - mask(wide)
				if x>>(wide-1) == 0 {
					above = 0
				}
				is(t, d, sign, []uint64{x}, x+above)
			}
		}
	}
	d, ok := term.New(100), must(t)
	low, high := ok(d.Const(8, 0x7f)), ok(d.Const(8, 0x80))
	is(t, d, ok(d.Extend(low, 9, true)), nil, 0x7f)
	is(t, d, ok(d.Extend(low, 64, true)), nil, 0x7f)
	is(t, d, ok(d.Extend(high, 9, true)), nil, 0x180)
	is(t, d, ok(d.Extend(high, 64, true)), nil, 0xffffffffffffff80)
	is(t, d, ok(d.Extend(high, 9, false)), nil, 0x80)
	is(t, d, ok(d.Extend(high, 64, false)), nil, 0x80)
	is(t, d, ok(d.Extend(high, 8, true)), nil, 0x80)
}

// A compare has one bit, but what it compares has more.
func TestComparesInTheWidthOfTheirParts(t *testing.T) {
	d, ok := term.New(100), must(t)
	a, b := ok(d.Var(8, 0)), ok(d.Var(8, 1))
	for _, c := range []struct {
		op   int
		x, y uint64
		want uint64
	}{{api.OpEq, 2, 4, 0}, {api.OpUlt, 2, 4, 1}, {api.OpUlt, 3, 4, 1}, {api.OpSlt, 3, 4, 1}, {api.OpSlt, 0x80, 1, 1}, {api.OpSlt, 3, 2, 0}} {
		id := ok(d.Binary(c.op, a, b))
		is(t, d, id, []uint64{c.x, c.y}, c.want)
		if d.Width(id) != 1 {
			t.Errorf("a compare is %d bits wide", d.Width(id))
		}
	}
	// And a compare of compares is one of single bits.
	less, same := ok(d.Binary(api.OpUlt, a, b)), ok(d.Binary(api.OpEq, a, b))
	id := ok(d.Binary(api.OpSlt, less, same))
	is(t, d, id, []uint64{1, 2}, 1)
	is(t, d, id, []uint64{2, 2}, 0)
}

// Promise 16.1: each term once, however often it is met.

// Each has the one ahead twice, so that its text doubles; were it reckoned as
// often as it is met, this would not end.
func TestWorkDoesNotDouble(t *testing.T) {
	for _, rows := range []int{1, 2, 63, 64, 65, 100, 30000} {
		d, ok := term.New(api.MaxTerms), must(t)
		x := ok(d.Var(64, 3))
		c := ok(d.Var(1, 4))
		sum, choice := x, x
		for range rows {
			sum = ok(d.Binary(api.OpAdd, sum, sum))
			choice = ok(d.Ite(c, choice, choice))
		}
		is(t, d, sum, []uint64{0, 0, 0, 5}, 5<<rows)
		is(t, d, choice, []uint64{0, 0, 0, 5, 1}, 5)
		hasVars(t, d, sum, 3)
		hasVars(t, d, choice, 3, 4)
		hasSize(t, d, sum, rows+1)
		hasSize(t, d, choice, rows+2)
	}
}

// Each has the two ahead of it.
func TestSumsOfTheTwoAhead(t *testing.T) {
	d, ok := term.New(api.MaxTerms), must(t)
	a, b := ok(d.Var(64, 0)), ok(d.Var(64, 1))
	x, y := uint64(3), uint64(4)
	for n := 3; n < 2000; n++ {
		a, b = b, ok(d.Binary(api.OpAdd, a, b))
		x, y = y, x+y
		if n < 200 || n > 1990 {
			is(t, d, b, []uint64{3, 4}, y)
			hasSize(t, d, b, n)
			hasVars(t, d, b, 0, 1)
		}
	}
}

// All that is handed to what reckons is made of the parts, in their order, and
// no term is handed to it twice.
func TestReckonedOnce(t *testing.T) {
	d, ok := term.New(1000), must(t)
	x, y, c := ok(d.Var(8, 0)), ok(d.Var(8, 1)), ok(d.Var(1, 2))
	id := ok(d.Ite(c, x, y))
	for range 50 {
		id = ok(d.Ite(c, id, ok(d.Binary(api.OpSub, id, ok(d.Unary(api.OpNot, x))))))
	}
	calls := map[api.Node]int{}
	held := reckon(d, id, func(n api.Node, parts [most]int) int {
		calls[n]++
		for i, p := range plainParts(n) {
			// What is told of a term is its number and one more.
			if parts[i] != p+1 {
				t.Errorf("of %+v the part %d is %d", n, i, parts[i])
			}
		}
		for _, p := range parts[len(plainParts(n)):] {
			if p != 0 {
				t.Errorf("%+v has a part more: %d", n, p)
			}
		}
		return slices.Index(nodes(d), n) + 1
	})
	if len(calls) != d.Len() || len(held) != d.Len() {
		t.Errorf("%d terms were reckoned, and %d are held, of %d", len(calls), len(held), d.Len())
	}
	for n, many := range calls {
		if many != 1 {
			t.Errorf("%+v was reckoned %d times", n, many)
		}
	}
}

// As many terms as may be, each made of the one ahead.
func TestLongestRow(t *testing.T) {
	d, ok := term.New(api.MaxTerms), must(t)
	id, want := ok(d.Var(64, 255)), uint64(9)
	for d.Len() < api.MaxTerms {
		if d.Len()%2 == 0 {
			id, want = ok(d.Unary(api.OpNot, id)), ^want
		} else {
			id, want = ok(d.Unary(api.OpNeg, id)), -want
		}
	}
	env := make([]uint64, api.MaxInputs)
	env[255] = 9
	is(t, d, id, env, want)
	hasVars(t, d, id, 255)
	hasSize(t, d, id, api.MaxTerms)
	is(t, d, api.MaxTerms/2, env, turned(9, api.MaxTerms/2))
	hasSize(t, d, api.MaxTerms/2, api.MaxTerms/2+1)
	for _, none := range noTerms(d) {
		isNone(t, d, none)
	}
	hasSize(t, d, 0, 1)
}

func turned(x uint64, steps int) uint64 {
	for i := 1; i <= steps; i++ {
		if i%2 == 0 {
			x = ^x
		} else {
			x = -x
		}
	}
	return x
}

// A row in which the one ahead stands first, and one in which it stands last.
func TestLongRowsOfTwo(t *testing.T) {
	for _, last := range []bool{false, true} {
		d, ok := term.New(api.MaxTerms), must(t)
		one := ok(d.Const(64, 1))
		id, want := ok(d.Var(64, 0)), uint64(70)
		for d.Len() < api.MaxTerms {
			if last {
				id, want = ok(d.Binary(api.OpSub, one, id)), 1-want
			} else {
				id, want = ok(d.Binary(api.OpSub, id, one)), want-1
			}
		}
		is(t, d, id, []uint64{70}, want)
		hasSize(t, d, id, api.MaxTerms)
		hasVars(t, d, id, 0)
	}
}

// Promise 16.1: Vars.

func TestVars(t *testing.T) {
	d, ok := term.New(1000), must(t)
	seven, zero := ok(d.Const(8, 7)), ok(d.Const(8, 0))
	var v [api.MaxInputs]int
	for _, i := range []int{9, 255, 3, 0, 200, 10} {
		v[i] = ok(d.Var(8, i))
	}
	sum := ok(d.Binary(api.OpAdd, v[200], v[3]))
	hasVars(t, d, sum, 3, 200)
	hasVars(t, d, ok(d.Binary(api.OpAdd, sum, sum)), 3, 200)
	hasVars(t, d, ok(d.Binary(api.OpMul, ok(d.Binary(api.OpXor, sum, v[9])), v[3])), 3, 9, 200)
	hasVars(t, d, ok(d.Binary(api.OpOr, v[255], v[0])), 0, 255)
	hasVars(t, d, ok(d.Binary(api.OpSub, v[10], v[9])), 9, 10)
	hasVars(t, d, ok(d.Unary(api.OpNeg, v[255])), 255)
	// By the text alone, whether a word hangs on it or not.
	hasVars(t, d, ok(d.Binary(api.OpMul, v[10], zero)), 10)
	hasVars(t, d, ok(d.Binary(api.OpXor, v[9], v[9])), 9)
	hasVars(t, d, ok(d.Binary(api.OpSub, seven, zero)))
	hasVars(t, d, ok(d.Extract(ok(d.Extend(v[3], 64, true)), 60, 4)), 3)
	hasVars(t, d, ok(d.Extract(ok(d.Extend(v[3], 64, false)), 60, 4)), 3)
	hasVars(t, d, ok(d.Concat(v[255], ok(d.Concat(seven, v[9])))), 9, 255)
	yes, no := ok(d.Const(1, 1)), ok(d.Const(1, 0))
	hasVars(t, d, ok(d.Ite(yes, v[0], v[10])), 0, 10)
	hasVars(t, d, ok(d.Ite(no, v[0], v[10])), 0, 10)
	hasVars(t, d, ok(d.Ite(ok(d.Binary(api.OpUlt, v[200], v[9])), seven, seven)), 9, 200)
	hasVars(t, d, seven)
	hasVars(t, d, d.Len())
	// A B, C or Val that is no term is not taken for one.
	hasVars(t, d, ok(d.Extract(seven, 2, 3)))
	hasVars(t, d, ok(d.Unary(api.OpNot, seven)))
}

func TestAllVars(t *testing.T) {
	for _, step := range []int{1, 3, 101, 255} {
		d, ok := term.New(api.MaxTerms), must(t)
		id := ok(d.Const(8, 0))
		var want []int
		for k := range api.MaxInputs {
			// Each comes once, since the step has no part of 256.
			i := (k * step) % api.MaxInputs
			id = ok(d.Binary(api.OpXor, id, ok(d.Var(8, i))))
			want = append(want, i)
			if k%51 == 0 || k == api.MaxInputs-1 {
				slices.Sort(want)
				hasVars(t, d, id, want...)
			}
		}
		if len(want) != api.MaxInputs {
			t.Errorf("%d variables", len(want))
		}
	}
}

// A list that was told stays as it is, and may be written to.
func TestVarsAreNew(t *testing.T) {
	d, ok := term.New(100), must(t)
	id := ok(d.Binary(api.OpAdd, ok(d.Var(8, 5)), ok(d.Var(8, 4))))
	first := Vars(d, id)
	again := Vars(d, id)
	first[0] = 77
	if !slices.Equal(again, []int{4, 5}) {
		t.Errorf("two lists share memory: %v", again)
	}
	hasVars(t, d, id, 4, 5)
}

// Promise 16.1: Size.

func TestSize(t *testing.T) {
	d, ok := term.New(1000), must(t)
	x, y, one := ok(d.Var(8, 0)), ok(d.Var(8, 1)), ok(d.Const(8, 1))
	hasSize(t, d, x, 1)
	hasSize(t, d, one, 1)
	twice := ok(d.Binary(api.OpAdd, x, x))
	hasSize(t, d, twice, 2)
	hasSize(t, d, ok(d.Binary(api.OpMul, twice, x)), 3)
	hasSize(t, d, ok(d.Binary(api.OpMul, twice, twice)), 3)
	hasSize(t, d, ok(d.Binary(api.OpMul, twice, y)), 4)
	hasSize(t, d, ok(d.Unary(api.OpNot, twice)), 3)
	hasSize(t, d, ok(d.Extract(twice, 1, 2)), 3)
	hasSize(t, d, ok(d.Extend(twice, 9, true)), 3)
	hasSize(t, d, ok(d.Extend(twice, 9, false)), 3)
	hasSize(t, d, ok(d.Extend(twice, 8, false)), 2)
	hasSize(t, d, ok(d.Concat(x, y)), 3)
	less := ok(d.Binary(api.OpUlt, x, y))
	hasSize(t, d, less, 3)
	hasSize(t, d, ok(d.Ite(less, x, y)), 4)
	hasSize(t, d, ok(d.Ite(less, twice, one)), 6)
	hasSize(t, d, ok(d.Ite(less, less, less)), 4)
	// Nothing that was made since is a part of these.
	hasSize(t, d, twice, 2)
	hasSize(t, d, y, 1)
	hasSize(t, d, d.Len(), 0)
	hasSize(t, d, -1, 0)
}

// Of a term that is made of fields that look like terms' numbers.
func TestFieldsThatAreNoTerms(t *testing.T) {
	d, ok := term.New(100), must(t)
	x := ok(d.Var(8, 0))
	ok(d.Var(8, 1))
	ok(d.Var(8, 2))
	last := ok(d.Var(8, 3))
	hasSize(t, d, last, 1)
	hasVars(t, d, last, 3)
	id := ok(d.Extract(last, 1, 4))
	hasSize(t, d, id, 2)
	hasVars(t, d, id, 3)
	is(t, d, id, []uint64{1, 2, 3, 0xff}, 15)
	one := ok(d.Const(8, 1))
	hasSize(t, d, one, 1)
	hasVars(t, d, one)
	hasVars(t, d, ok(d.Unary(api.OpNeg, last)), 3)
	hasVars(t, d, ok(d.Binary(api.OpAdd, last, one)), 3)
	hasVars(t, d, x, 0)
}

// What is handed in, and what was told.

// Every length of env, each word at its place.
func TestEnvOfAnyLength(t *testing.T) {
	d, ok := term.New(2000), must(t)
	id := ok(d.Const(64, 0))
	for i := range api.MaxInputs {
		id = ok(d.Binary(api.OpAdd, id, ok(d.Var(64, i))))
	}
	var env []uint64
	total := uint64(0)
	for i := range 400 {
		is(t, d, id, env, total)
		x := uint64(i)<<40 + 1
		env = append(env, x)
		if i < api.MaxInputs {
			total += x
		}
	}
	is(t, d, id, make([]uint64, 1<<20), 0)
}

func TestNothingChanges(t *testing.T) {
	d, ok := term.New(20), must(t)
	x, y := ok(d.Var(8, 0)), ok(d.Var(8, 1))
	less := ok(d.Binary(api.OpSlt, x, y))
	id := ok(d.Ite(less, ok(d.Binary(api.OpUdiv, x, y)), ok(d.Const(8, 4))))
	was := nodes(d)
	for range 3 {
		for _, k := range []int{id, less, x, -1, d.Len(), math.MaxInt} {
			Value(d, k, []uint64{200, 3})
			Value(d, k, nil)
			Vars(d, k)
			Size(d, k)
			unchanged(t, d, was)
		}
		is(t, d, id, []uint64{200, 3}, 66)
		is(t, d, id, []uint64{3, 200}, 4)
		is(t, d, id, []uint64{200, 3}, 66)
	}
	// There is as much room as there was.
	for d.Len() < 20 {
		ok(d.Const(64, uint64(d.Len())))
	}
}

// Each on a dag of its own, and all on one that nobody adds to.
func TestAtTheSameTime(t *testing.T) {
	shared, ok := term.New(1000), must(t)
	id := ok(shared.Var(64, 0))
	for range 300 {
		id = ok(shared.Binary(api.OpAdd, id, id))
		id = ok(shared.Unary(api.OpNot, id))
	}
	want, _ := Value(shared, id, []uint64{5})
	var all sync.WaitGroup
	for g := range 8 {
		all.Go(func() {
			d := term.New(1000)
			own, _ := d.Var(64, g)
			env := make([]uint64, 9)
			env[g] = uint64(g + 1)
			for i := range 300 {
				own, _ = d.Binary(api.OpAdd, own, own)
				x, e := Value(d, own, env)
				if i < 60 && x != uint64(g+1)<<(i+1) || e != api.OK {
					t.Errorf("dag %d: %d, %d behind %d", g, x, e, i)
				}
				if v := Vars(d, own); !slices.Equal(v, []int{g}) {
					t.Errorf("dag %d: Vars %v", g, v)
				}
				if n := Size(d, own); n != i+2 {
					t.Errorf("dag %d: Size %d", g, n)
				}
				if x, e := Value(shared, id, []uint64{5}); x != want || e != api.OK {
					t.Errorf("the shared one: %d, %d, want %d", x, e, want)
				}
			}
		})
	}
	all.Wait()
}
