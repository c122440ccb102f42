package fold

import (
	"math"
	"slices"
	"sync"
	"testing"

	"breakwater/api"
	"breakwater/sem"
	"breakwater/term"
)

// widths are those at which something may go wrong.
var widths = []int{1, 2, 8, 63, 64}

// far are numbers out to the ends of int.
var far = []int{math.MinInt, math.MinInt + 1, math.MinInt / 2, math.MinInt32, math.MaxInt32, 1 << 32, math.MaxInt / 2, math.MaxInt - 1, math.MaxInt}

// noWidths are numbers that no term is wide.
var noWidths = append([]int{0, -1, -8, -64, 65, 66, 128, 256}, far...)

// noUnary and noBinary are no operators of one term, and of two.
var (
	noUnary  = append([]int{0, -1, 1, 2, 6, 13, 14, 17, 18, 20, 21, 22, 23, 24, 25, 26, 27, 64, -15, -16}, far...)
	noBinary = append([]int{0, -1, 15, 16, 17, 18, 20, 21, 22, 23, 24, 25, 26, 27, 64, -14}, far...)
)

// noTerms are numbers of none of d's terms.
func noTerms(d *term.Dag) []int {
	return append([]int{-1, -2, d.Len(), d.Len() + 1, d.Len() + 1000, api.MaxTerms}, far...)
}

func mask(w int) uint64 { return ^uint64(0) >> (64 - w) }

// wordsOf are words of w bits at which something may go wrong.
func wordsOf(w int) []uint64 {
	var all []uint64
	for _, x := range []uint64{0, 1, 2, 3, 5, 7, 8, 62, 63, 64, 65, 127, 128, 200, 255, 1 << 32, 0x123456789abcdef0,
		mask(w), mask(w) - 1, mask(w) >> 1, mask(w)>>1 + 1, uint64(w), uint64(w) - 1, uint64(w) + 1} {
		all = append(all, x&mask(w))
	}
	slices.Sort(all)
	return slices.Compact(all)
}

// must is the term that a call made.
func must(t *testing.T) func(int, api.Errno) int {
	return func(id int, e api.Errno) int {
		t.Helper()
		if e != api.OK {
			t.Fatalf("a term was not made: %d", e)
		}
		return id
	}
}

// fails asks that c tells 0 and the error, and makes nothing.
func fails(t *testing.T, d *term.Dag, c call, want api.Errno) {
	t.Helper()
	was := nodes(d)
	if id, e := c.on(d); id != 0 || e != want {
		t.Errorf("%v = %d, %d, want 0, %d", c, id, e, want)
	}
	if !slices.Equal(nodes(d), was) {
		t.Fatalf("%v: terms have changed beside an error", c)
	}
}

// tells asks that c tells a term that is there, also where there is no room.
func tells(t *testing.T, d *term.Dag, c call, want int) {
	t.Helper()
	was := nodes(d)
	for _, e := range []*term.Dag{d, again(t, was, len(was)), d} {
		if id, no := c.on(e); id != want || no != api.OK {
			n, _ := d.Node(want)
			t.Fatalf("%v = %d, %d, want %d, %d: %+v", c, id, no, want, api.OK, n)
		}
		if !slices.Equal(nodes(e), was) {
			t.Fatalf("%v changed the terms", c)
		}
	}
}

// isWord asks that c tells the constant x of w bits, which may not be there.
func isWord(t *testing.T, d *term.Dag, c call, w int, x uint64) {
	t.Helper()
	was := nodes(d)
	want := api.Node{Op: api.TermConst, Width: w, Val: x}
	if !slices.Contains(was, want) {
		fails(t, again(t, was, len(was)), c, api.ErrLimit)
	}
	id, e := c.on(d)
	if n, _ := d.Node(id); n != want || e != api.OK {
		t.Fatalf("%v = %d, %d: %+v, want %+v", c, id, e, n, want)
	}
	if now := nodes(d); !slices.Equal(now[:len(was)], was) {
		t.Fatalf("%v changed the terms that were there", c)
	}
	tells(t, d, c, id)
}

// kinds makes a term of w bits of each kind, and constants, and chapter 15's
// own terms of what this package makes simpler.
func kinds(t *testing.T, d *term.Dag, w int) []int {
	ok := must(t)
	x, y, c := ok(d.Var(w, w)), ok(d.Var(w, 100+w)), ok(d.Var(1, 200))
	wide := ok(d.Var(64, 201))
	zero := ok(d.Const(w, 0))
	all := []int{x, zero, ok(d.Const(w, 1)), ok(d.Const(w, mask(w)>>1+1)), ok(d.Const(w, mask(w)))}
	for op := api.OpAdd; op <= api.OpSar; op++ {
		all = append(all, ok(d.Binary(op, x, y)), ok(d.Binary(op, x, zero)), ok(d.Binary(op, x, x)))
	}
	for _, op := range []int{api.OpNot, api.OpNeg} {
		once := ok(d.Unary(op, x))
		all = append(all, once, ok(d.Unary(op, once)), ok(d.Unary(op, zero)))
	}
	all = append(all, ok(d.Ite(c, x, y)), ok(d.Ite(c, x, x)), ok(d.Extract(wide, 64-w, w)), ok(d.Extract(wide, 0, w)))
	less := ok(d.Binary(api.OpUlt, x, y))
	if w == 1 {
		return append(all, less, ok(d.Binary(api.OpEq, x, x)), ok(d.Binary(api.OpSlt, y, x)))
	}
	low, high := ok(d.Extract(x, 0, 1)), ok(d.Extract(y, 1, w-1))
	return append(all, ok(d.Concat(high, low)), ok(d.Extend(high, w, false)), ok(d.Extend(high, w, true)), ok(d.Extend(less, w, false)))
}

// onKinds goes through terms of all kinds and widths; what is handed on with
// each is a dag with room, which is another one for each width.
func onKinds(t *testing.T, of func(d *term.Dag, w, x int)) {
	t.Helper()
	for _, w := range widths {
		d := term.New(1000)
		for _, x := range kinds(t, d, w) {
			of(d, w, x)
		}
	}
}

// Promise 17.1: the chapter's example.

func TestExample(t *testing.T) {
	d, ok := term.New(9), must(t)
	two, three := ok(d.Const(8, 2)), ok(d.Const(8, 3))
	five := ok(Binary(d, api.OpAdd, two, three))
	if x, known := Known(d, five); x != 5 || !known {
		t.Errorf("Known(2 + 3) = %d, %v", x, known)
	}
	if n, _ := d.Node(five); n != (api.Node{Op: api.TermConst, Width: 8, Val: 5}) {
		t.Errorf("2 + 3 is %+v", n)
	}
	if id := ok(d.Const(8, 5)); id != five {
		t.Errorf("5 is %d, and 2 + 3 is %d", id, five)
	}
}

// Promise 17.1: constants.

func TestBinaryOfConstants(t *testing.T) {
	for op := api.OpAdd; op <= api.OpSlt; op++ {
		for _, w := range widths {
			d, ok := term.New(api.MaxTerms), must(t)
			wide := w
			if op >= api.OpEq {
				wide = 1
			}
			for _, x := range wordsOf(w) {
				for _, y := range wordsOf(w) {
					a, b := ok(d.Const(w, x)), ok(d.Const(w, y))
					id := ok(Binary(d, op, a, b))
					want, _ := sem.Value(d, ok(d.Binary(op, a, b)), nil)
					if n, _ := d.Node(id); n != (api.Node{Op: api.TermConst, Width: wide, Val: want}) {
						t.Fatalf("%d of %#x and %#x is %+v, want %#x", op, x, y, n, want)
					}
				}
			}
		}
	}
}

// What operators of two make of constants, written out.
func TestBinaryByHand(t *testing.T) {
	for _, c := range []struct {
		op, w      int
		x, y, want uint64
	}{
		{api.OpAdd, 1, 1, 1, 0}, {api.OpAdd, 8, 200, 100, 44}, {api.OpAdd, 64, math.MaxUint64, 2, 1},
		{api.OpSub, 8, 1, 2, 255}, {api.OpSub, 63, 0, 1, 1<<63 - 1}, {api.OpSub, 64, 0, 1, math.MaxUint64},
		{api.OpMul, 8, 16, 17, 16}, {api.OpMul, 64, 1 << 32, 1<<32 + 1, 1 << 32},
		{api.OpUdiv, 8, 200, 7, 28}, {api.OpUdiv, 8, 9, 0, 255}, {api.OpUdiv, 1, 0, 0, 1}, {api.OpUdiv, 63, 5, 0, 1<<63 - 1},
		{api.OpUdiv, 64, 5, 0, math.MaxUint64}, {api.OpUrem, 8, 200, 7, 4}, {api.OpUrem, 8, 9, 0, 9}, {api.OpUrem, 64, 1 << 63, 0, 1 << 63},
		{api.OpAnd, 8, 12, 10, 8}, {api.OpOr, 8, 12, 10, 14}, {api.OpXor, 8, 12, 10, 6},
		{api.OpShl, 8, 3, 7, 128}, {api.OpShl, 8, 3, 8, 0}, {api.OpShl, 8, 3, 255, 0}, {api.OpShl, 64, 3, 63, 1 << 63}, {api.OpShl, 64, 3, 64, 0},
		{api.OpShr, 8, 192, 7, 1}, {api.OpShr, 8, 192, 8, 0}, {api.OpShr, 64, math.MaxUint64, 64, 0}, {api.OpShr, 64, 1 << 63, 63, 1},
		{api.OpSar, 4, 8, 1, 12}, {api.OpSar, 8, 128, 8, 255}, {api.OpSar, 8, 127, 8, 0}, {api.OpSar, 64, 1 << 63, 1 << 63, math.MaxUint64}, {api.OpSar, 1, 1, 1, 1},
	} {
		d, ok := term.New(9), must(t)
		isWord(t, d, binary(c.op, ok(d.Const(c.w, c.x)), ok(d.Const(c.w, c.y))), c.w, c.want)
	}
	for _, c := range []struct {
		op, w      int
		x, y, want uint64
	}{
		{api.OpEq, 8, 7, 7, 1}, {api.OpEq, 8, 7, 6, 0}, {api.OpEq, 64, 1 << 63, 0, 0}, {api.OpEq, 1, 0, 0, 1},
		{api.OpUlt, 8, 7, 128, 1}, {api.OpUlt, 8, 128, 7, 0}, {api.OpUlt, 64, 5, 5, 0}, {api.OpUlt, 1, 0, 1, 1},
		{api.OpSlt, 8, 7, 128, 0}, {api.OpSlt, 8, 128, 7, 1}, {api.OpSlt, 64, math.MaxUint64, 0, 1}, {api.OpSlt, 1, 0, 1, 0}, {api.OpSlt, 1, 1, 0, 1}, {api.OpSlt, 63, 1 << 62, 0, 1},
	} {
		d, ok := term.New(9), must(t)
		isWord(t, d, binary(c.op, ok(d.Const(c.w, c.x)), ok(d.Const(c.w, c.y))), 1, c.want)
	}
}

func TestUnaryOfConstants(t *testing.T) {
	for _, w := range widths {
		d, ok := term.New(1000), must(t)
		for _, x := range wordsOf(w) {
			isWord(t, d, unary(api.OpNot, ok(d.Const(w, x))), w, mask(w)-x)
			isWord(t, d, unary(api.OpNeg, ok(d.Const(w, x))), w, (mask(w)-x+1)&mask(w))
		}
	}
}

func TestExtractOfConstants(t *testing.T) {
	for _, wide := range widths {
		d, ok := term.New(api.MaxTerms), must(t)
		for _, x := range wordsOf(wide) {
			a := ok(d.Const(wide, x))
			for _, lo := range []int{0, 1, wide / 2, wide - 1} {
				for _, w := range []int{1, 2, (wide - lo + 1) / 2, wide - lo} {
					if lo+w <= wide && w > 0 {
						isWord(t, d, extract(a, lo, w), w, x>>lo&mask(w))
					}
				}
			}
		}
	}
}

func TestConcatOfConstants(t *testing.T) {
	for _, w := range [][2]int{{1, 1}, {1, 2}, {2, 1}, {8, 8}, {1, 63}, {63, 1}, {32, 32}, {8, 56}, {62, 2}} {
		d, ok := term.New(api.MaxTerms), must(t)
		for _, x := range []uint64{0, 1, mask(w[0]), mask(w[0])>>1 + 1} {
			for _, y := range []uint64{0, 1, mask(w[1]), mask(w[1])>>1 + 1} {
				isWord(t, d, concat(ok(d.Const(w[0], x)), ok(d.Const(w[1], y))), w[0]+w[1], x<<w[1]+y)
			}
		}
	}
}

func TestExtendOfConstants(t *testing.T) {
	for wide := 1; wide <= api.MaxWidth; wide++ {
		d, ok := term.New(api.MaxTerms), must(t)
		for _, x := range []uint64{0, 1, mask(wide) >> 1, mask(wide)>>1 + 1, mask(wide)} {
			a := ok(d.Const(wide, x))
			for _, w := range []int{wide, wide + 1, 63, 64} {
				if w < wide || w > 64 {
					continue
				}
				above := mask(w) - mask(wide)
				if x>>(wide-1) == 0 {
					above = 0
				}
				isWord(t, d, extend(a, w, false), w, x)
				isWord(t, d, extend(a, w, true), w, x+above)
			}
		}
	}
}

// A constant is told also where the one that is not chosen is none.
func TestIteOfConstants(t *testing.T) {
	for _, w := range widths {
		d, ok := term.New(1000), must(t)
		no, yes := ok(d.Const(1, 0)), ok(d.Const(1, 1))
		x := ok(d.Var(w, 0))
		for _, y := range wordsOf(w) {
			k := ok(d.Const(w, y))
			for _, other := range []int{x, ok(d.Binary(api.OpMul, x, k)), ok(d.Const(w, ^y)), k} {
				tells(t, d, ite(yes, k, other), k)
				tells(t, d, ite(no, other, k), k)
			}
		}
	}
}

// Promise 17.1: Known.

func TestKnown(t *testing.T) {
	for w := 1; w <= api.MaxWidth; w++ {
		d, ok := term.New(1000), must(t)
		for _, x := range wordsOf(w) {
			id := ok(d.Const(w, x))
			for range 2 {
				if y, known := Known(d, id); y != x || !known {
					t.Errorf("Known of %#x, of %d bits, = %#x, %v", x, w, y, known)
				}
			}
		}
		// What is above the width is cut off.
		if y, known := Known(d, ok(d.Const(w, math.MaxUint64))); y != mask(w) || !known {
			t.Errorf("Known = %#x, %v, want %#x", y, known, mask(w))
		}
	}
}

func TestKnownOfOthers(t *testing.T) {
	for _, w := range widths {
		d := term.New(1000)
		kinds(t, d, w)
		was := nodes(d)
		for id, n := range was {
			x, known := Known(d, id)
			if n.Op == api.TermConst && (x != n.Val || !known) || n.Op != api.TermConst && (x != 0 || known) {
				t.Errorf("Known of %+v = %#x, %v", n, x, known)
			}
		}
		for _, id := range noTerms(d) {
			if x, known := Known(d, id); x != 0 || known {
				t.Errorf("Known(%d) = %#x, %v, of none", id, x, known)
			}
		}
		if !slices.Equal(nodes(d), was) {
			t.Errorf("Known changed the terms")
		}
	}
}

// Promise 17.2.

func TestNeutral(t *testing.T) {
	onKinds(t, func(d *term.Dag, w, x int) {
		ok := must(t)
		zero, one := ok(d.Const(w, 0)), ok(d.Const(w, 1))
		for _, op := range []int{api.OpAdd, api.OpSub, api.OpOr, api.OpXor, api.OpShl, api.OpShr, api.OpSar} {
			tells(t, d, binary(op, x, zero), x)
		}
		for _, op := range []int{api.OpAdd, api.OpOr, api.OpXor} {
			tells(t, d, binary(op, zero, x), x)
		}
		tells(t, d, binary(api.OpMul, x, one), x)
		tells(t, d, binary(api.OpMul, one, x), x)
	})
}

func TestNought(t *testing.T) {
	onKinds(t, func(d *term.Dag, w, x int) {
		zero := must(t)(d.Const(w, 0))
		for _, op := range []int{api.OpMul, api.OpAnd} {
			tells(t, d, binary(op, x, zero), zero)
			tells(t, d, binary(op, zero, x), zero)
		}
		for _, op := range []int{api.OpXor, api.OpSub} {
			tells(t, d, binary(op, x, x), zero)
		}
	})
}

// The constant is made, where it is not there; where there is no room for it
// that is told, also if chapter 15's own term is there.
func TestNoughtThatIsNotThere(t *testing.T) {
	for _, w := range widths {
		d, ok := term.New(100), must(t)
		x := ok(d.Var(w, 0))
		sum := ok(d.Binary(api.OpAdd, x, x))
		for _, a := range []int{x, sum} {
			for _, op := range []int{api.OpXor, api.OpSub} {
				e := again(t, nodes(d), 100)
				isWord(t, e, binary(op, a, a), w, 0)
				e = again(t, nodes(d), 100)
				ok(e.Binary(op, a, a))
				isWord(t, e, binary(op, a, a), w, 0)
			}
			isWord(t, again(t, nodes(d), 100), binary(api.OpEq, a, a), 1, 1)
		}
	}
}

func TestEqualOfItself(t *testing.T) {
	onKinds(t, func(d *term.Dag, w, x int) {
		tells(t, d, binary(api.OpEq, x, x), must(t)(d.Const(1, 1)))
	})
}

func TestTwice(t *testing.T) {
	onKinds(t, func(d *term.Dag, w, x int) {
		for _, op := range []int{api.OpNot, api.OpNeg} {
			tells(t, d, unary(op, must(t)(d.Unary(op, x))), x)
			n, _ := d.Node(x)
			if n.Op == op {
				// Already the first call takes off the one that is there.
				tells(t, d, unary(op, x), n.A)
				continue
			}
			tells(t, d, unary(op, must(t)(Unary(d, op, x))), x)
		}
	})
}

// A Not of a negation, and a negation of a Not, are neither.
func TestNotOfNegation(t *testing.T) {
	for _, w := range widths {
		d, ok := term.New(100), must(t)
		x := ok(d.Var(w, 0))
		envs := envsOf(w)
		for _, ops := range [][2]int{{api.OpNot, api.OpNeg}, {api.OpNeg, api.OpNot}} {
			once := ok(Unary(d, ops[0], x))
			more := right(t, d, unary(ops[1], once), envs)
			// And a third time it is the one ahead.
			tells(t, d, unary(ops[1], more), once)
			right(t, d, unary(ops[0], more), envs)
		}
	}
}

// envsOf are words of variables 0 to 2, w bits wide.
func envsOf(w int) [][]uint64 {
	var envs [][]uint64
	for i, x := range wordsOf(w) {
		for _, y := range wordsOf(w) {
			envs = append(envs, []uint64{x, y, uint64(i)})
		}
	}
	return envs
}

func TestIteThatIsKnown(t *testing.T) {
	onKinds(t, func(d *term.Dag, w, x int) {
		ok := must(t)
		no, yes := ok(d.Const(1, 0)), ok(d.Const(1, 1))
		for _, y := range []int{ok(d.Var(w, w)), ok(d.Const(w, 0)), ok(d.Const(w, mask(w))), x} {
			tells(t, d, ite(yes, x, y), x)
			tells(t, d, ite(yes, y, x), y)
			tells(t, d, ite(no, x, y), y)
			tells(t, d, ite(no, y, x), x)
		}
	})
}

func TestIteOfOneTwice(t *testing.T) {
	onKinds(t, func(d *term.Dag, w, x int) {
		ok := must(t)
		v := ok(d.Var(w, w))
		for _, c := range []int{ok(d.Var(1, 200)), ok(d.Const(1, 0)), ok(d.Const(1, 1)), ok(d.Binary(api.OpUlt, v, x)), ok(d.Binary(api.OpEq, x, x))} {
			tells(t, d, ite(c, x, x), x)
		}
	})
}

// Where 0 and 1 stand on the other side, or are of another operator, or are
// words near by, a term may not be taken for simpler than it is.
func TestNearlySimpler(t *testing.T) {
	for _, w := range widths {
		d, ok := term.New(10000), must(t)
		x, y := ok(d.Var(w, 0)), ok(d.Var(w, 1))
		envs := envsOf(w)
		for op := api.OpAdd; op <= api.OpSlt; op++ {
			right(t, d, binary(op, x, x), envs)
			right(t, d, binary(op, x, y), envs)
			right(t, d, binary(op, y, x), envs)
			for _, k := range []uint64{0, 1, 2, 3, mask(w), mask(w) - 1, mask(w)>>1 + 1, uint64(w)} {
				c := ok(d.Const(w, k))
				right(t, d, binary(op, x, c), envs)
				right(t, d, binary(op, c, x), envs)
			}
		}
	}
	// Constants whose word is the other ones' number, or place.
	d, ok := term.New(100), must(t)
	seven, zero := ok(d.Const(8, 7)), ok(d.Const(8, 0))
	if seven != 0 || zero != 1 {
		t.Fatalf("7 and 0 are %d and %d", seven, zero)
	}
	x := ok(d.Var(8, 0))
	for op := api.OpAdd; op <= api.OpSlt; op++ {
		right(t, d, binary(op, x, seven), envsOf(8))
		right(t, d, binary(op, seven, x), envsOf(8))
	}
}

// Promise 17.1: terms that mean what chapter 15's do.

// Each call, of terms of each kind.
func TestAllCallsOnKinds(t *testing.T) {
	for _, w := range widths {
		d, ok := term.New(api.MaxTerms), must(t)
		all := kinds(t, d, w)
		c := ok(d.Var(1, 200))
		envs := make([][]uint64, 6)
		for i := range envs {
			env := make([]uint64, api.MaxInputs)
			for k := range env {
				env[k] = wordsOf(64)[(i*7+k*k)%len(wordsOf(64))] * uint64(i+1)
			}
			envs[i] = env
		}
		was := nodes(d)
		for i, a := range all {
			d := again(t, was, api.MaxTerms)
			right(t, d, unary(api.OpNot, a), envs)
			right(t, d, unary(api.OpNeg, a), envs)
			for _, k := range []int{0, i / 2, i, len(all) - 1} {
				for op := api.OpAdd; op <= api.OpSlt; op++ {
					right(t, d, binary(op, a, all[k]), envs)
				}
				right(t, d, ite(c, a, all[k]), envs)
				right(t, d, concat(a, all[k]), envs)
			}
			for _, b := range []int{w, w + 1, 63, 64} {
				right(t, d, extend(a, b, false), envs)
				right(t, d, extend(a, b, true), envs)
			}
			for _, lo := range []int{0, 1, w / 2, w - 1} {
				for _, b := range []int{1, w / 2, w - lo, w} {
					right(t, d, extract(a, lo, b), envs)
				}
			}
		}
	}
}

// Extracts of Extracts, of Concats and of Extends, in all places.
func TestExtractOfWhatWasPutTogether(t *testing.T) {
	d, ok := term.New(api.MaxTerms), must(t)
	x, y := ok(d.Var(5, 0)), ok(d.Var(4, 1))
	k := ok(d.Const(4, 9))
	var envs [][]uint64
	for i := range uint64(20) {
		envs = append(envs, []uint64{i * 7, i * 11})
	}
	for _, a := range []int{x, ok(Concat(d, x, y)), ok(Concat(d, y, x)), ok(Concat(d, k, x)), ok(Concat(d, x, k)), ok(Extend(d, x, 9, false)),
		ok(Extend(d, x, 9, true)), ok(Concat(d, ok(Concat(d, y, k)), x))} {
		for lo := -1; lo <= 13; lo++ {
			for w := -1; w <= 14; w++ {
				id := right(t, d, extract(a, lo, w), envs)
				if id < 0 {
					continue
				}
				for b := range w {
					right(t, d, extract(id, b, 1+(w-b)/2), envs)
				}
				right(t, d, extract(id, 0, w), envs)
			}
		}
	}
}

// A Concat and an Extend that are as wide as may be, and one bit more.
func TestWidest(t *testing.T) {
	d, ok := term.New(api.MaxTerms), must(t)
	var envs [][]uint64
	for _, x := range wordsOf(64) {
		envs = append(envs, slices.Repeat([]uint64{x}, 130))
	}
	for w := 1; w <= api.MaxWidth; w++ {
		ok(d.Var(w, w))
		ok(d.Const(w, 0x9999999999999999))
	}
	for w := 1; w <= api.MaxWidth; w++ {
		for _, a := range []int{2*w - 2, 2*w - 1} {
			for b := range d.Len() {
				if wide := w + d.Width(b); 63 <= wide && wide <= 66 && b < 128 {
					right(t, d, concat(a, b), envs)
				}
			}
			for _, wide := range []int{w - 1, w, w + 1, 63, 64, 65} {
				right(t, d, extend(a, wide, true), envs)
				right(t, d, extend(a, wide, false), envs)
			}
		}
	}
}

// Promise 17.1: errors.

// wrongTerms is a dag of a variable and two constants of each of the widths 1
// to 64 bits: those of w bits begin at 3 * (w - 1).
func wrongTerms(t *testing.T) *term.Dag {
	t.Helper()
	d, ok := term.New(1000), must(t)
	for w := 1; w <= api.MaxWidth; w++ {
		if id := ok(d.Var(w, w)); id != 3*w-3 {
			t.Fatalf("the variable of %d bits is %d", w, id)
		}
		ok(d.Const(w, 0))
		ok(d.Const(w, 1))
	}
	return d
}

func TestUnaryErrors(t *testing.T) {
	d, ok := wrongTerms(t), must(t)
	x := ok(d.Var(8, 8))
	ids := []int{x, x + 1, x + 2}
	// Of an operator that is none nothing is simpler, whatever it is of.
	for op := api.OpAdd; op <= api.OpSlt; op++ {
		ids = append(ids, ok(d.Binary(op, x, x)))
	}
	ids = append(ids, ok(d.Unary(api.OpNot, x)), ok(d.Unary(api.OpNeg, x)), ok(d.Ite(0, x, x)), ok(d.Extract(x, 0, 8)),
		ok(d.Concat(x, x)), ok(d.Extend(x, 9, false)), ok(d.Extend(x, 9, true)))
	for _, op := range noUnary {
		for _, id := range append(ids, noTerms(d)...) {
			fails(t, d, unary(op, id), api.ErrOp)
		}
	}
	for _, id := range noTerms(d) {
		fails(t, d, unary(api.OpNot, id), api.ErrTerm)
		fails(t, d, unary(api.OpNeg, id), api.ErrTerm)
	}
}

func TestBinaryErrors(t *testing.T) {
	d := wrongTerms(t)
	wrong := noTerms(d)
	for op := api.OpAdd; op <= api.OpSlt; op++ {
		for _, x := range wrong {
			for a := range 3 {
				fails(t, d, binary(op, x, a), api.ErrTerm)
				fails(t, d, binary(op, a, x), api.ErrTerm)
			}
			fails(t, d, binary(op, x, x), api.ErrTerm)
			fails(t, d, binary(op, x, wrong[0]), api.ErrTerm)
		}
		for _, w := range [][2]int{{1, 2}, {2, 1}, {8, 9}, {1, 64}, {64, 1}, {63, 64}} {
			for a := range 3 {
				for b := range 3 {
					fails(t, d, binary(op, 3*w[0]-3+a, 3*w[1]-3+b), api.ErrWidth)
				}
			}
		}
	}
	for _, op := range noBinary {
		for a := range 3 {
			for b := range 6 {
				fails(t, d, binary(op, a, b), api.ErrOp)
			}
			for _, x := range wrong {
				fails(t, d, binary(op, x, a), api.ErrOp)
				fails(t, d, binary(op, a, x), api.ErrOp)
				fails(t, d, binary(op, x, x), api.ErrOp)
			}
		}
	}
}

func TestIteErrors(t *testing.T) {
	d := wrongTerms(t)
	for _, x := range noTerms(d) {
		// 0, 1 and 2 have one bit: a variable, 0 and 1.
		for c := range 3 {
			for _, w := range []int{1, 64} {
				a := 3*w - 3
				fails(t, d, ite(c, x, a), api.ErrTerm)
				fails(t, d, ite(c, a, x), api.ErrTerm)
				fails(t, d, ite(c, x, x), api.ErrTerm)
				fails(t, d, ite(x, a, a), api.ErrTerm)
				fails(t, d, ite(x, a, a+1), api.ErrTerm)
			}
		}
		// ErrTerm is ahead of ErrWidth of the others.
		fails(t, d, ite(x, 0, 3), api.ErrTerm)
		fails(t, d, ite(7, x, 0), api.ErrTerm)
		fails(t, d, ite(7, 0, x), api.ErrTerm)
		fails(t, d, ite(x, x, x), api.ErrTerm)
	}
	for w := 2; w <= api.MaxWidth; w++ {
		for k := range 3 {
			a := 3*w - 3 + k
			fails(t, d, ite(a, 0, 0), api.ErrWidth)
			fails(t, d, ite(a, a, a), api.ErrWidth)
			fails(t, d, ite(a, 0, a), api.ErrWidth)
			for c := range 3 {
				fails(t, d, ite(c, a, 0), api.ErrWidth)
				fails(t, d, ite(c, 0, a), api.ErrWidth)
				fails(t, d, ite(c, a, a-3), api.ErrWidth)
			}
		}
	}
}

func TestExtractErrors(t *testing.T) {
	d := wrongTerms(t)
	for wide := 1; wide <= api.MaxWidth; wide++ {
		for k := range 3 {
			a := 3*wide - 3 + k
			for _, lw := range [][2]int{{0, 0}, {0, -1}, {-1, 1}, {-1, wide}, {-1, 0}, {0, wide + 1}, {1, wide}, {wide, 1}, {wide, 0}, {wide - 1, 2}, {64, 1}, {0, 65}} {
				fails(t, d, extract(a, lw[0], lw[1]), api.ErrWidth)
			}
		}
	}
	for a := range 192 {
		for _, x := range far {
			fails(t, d, extract(a, x, 1), api.ErrWidth)
			fails(t, d, extract(a, 0, x), api.ErrWidth)
			fails(t, d, extract(a, 1, x), api.ErrWidth)
			fails(t, d, extract(a, x, x), api.ErrWidth)
		}
	}
	for _, x := range far {
		for _, y := range far {
			fails(t, d, extract(2, x, y), api.ErrWidth)
			fails(t, d, extract(191, x, y), api.ErrWidth)
		}
	}
	for _, a := range noTerms(d) {
		for _, x := range append([]int{-1, 0, 1, 64, 65}, far...) {
			fails(t, d, extract(a, 0, x), api.ErrTerm)
			fails(t, d, extract(a, x, 1), api.ErrTerm)
			fails(t, d, extract(a, x, x), api.ErrTerm)
		}
	}
}

func TestConcatErrors(t *testing.T) {
	d := wrongTerms(t)
	for _, w := range [][2]int{{1, 64}, {64, 1}, {32, 33}, {33, 32}, {2, 63}, {64, 64}} {
		for a := range 3 {
			for b := range 3 {
				fails(t, d, concat(3*w[0]-3+a, 3*w[1]-3+b), api.ErrWidth)
			}
		}
	}
	for _, x := range noTerms(d) {
		for _, a := range []int{0, 1, 2, 189, 190, 191, x} {
			fails(t, d, concat(x, a), api.ErrTerm)
			fails(t, d, concat(a, x), api.ErrTerm)
		}
	}
}

func TestExtendErrors(t *testing.T) {
	d := wrongTerms(t)
	for wide := 1; wide <= api.MaxWidth; wide++ {
		for k := range 3 {
			for _, signed := range []bool{false, true} {
				for _, w := range append([]int{wide - 1}, noWidths...) {
					fails(t, d, extend(3*wide-3+k, w, signed), api.ErrWidth)
				}
			}
		}
	}
	for _, x := range noTerms(d) {
		for _, w := range append([]int{1, 8, 64}, noWidths...) {
			fails(t, d, extend(x, w, false), api.ErrTerm)
			fails(t, d, extend(x, w, true), api.ErrTerm)
		}
	}
}

// Promise 17.1: ErrLimit.

func TestNoRoom(t *testing.T) {
	d, ok := term.New(6), must(t)
	x, y, c := ok(d.Var(8, 0)), ok(d.Var(8, 1)), ok(d.Var(1, 2))
	zero, seven := ok(d.Const(8, 0)), ok(d.Const(8, 7))
	sum := ok(d.Binary(api.OpAdd, x, y))
	for _, c := range []call{
		binary(api.OpAdd, y, x), binary(api.OpUlt, x, y), unary(api.OpNot, x), ite(c, x, y), extract(x, 1, 2), concat(x, y), extend(x, 9, true), extend(x, 9, false),
		// Constants that are not there.
		binary(api.OpAdd, seven, seven), binary(api.OpEq, seven, zero), binary(api.OpEq, x, x), binary(api.OpUdiv, seven, zero), unary(api.OpNot, seven),
		unary(api.OpNeg, seven), extract(seven, 0, 4), concat(seven, seven), extend(seven, 9, false), extend(seven, 64, true),
	} {
		fails(t, d, c, api.ErrLimit)
	}
	// What is there is told nevertheless.
	tells(t, d, binary(api.OpAdd, x, y), sum)
	tells(t, d, binary(api.OpAdd, seven, zero), seven)
	tells(t, d, binary(api.OpSub, seven, seven), zero)
	tells(t, d, binary(api.OpUrem, seven, zero), seven)
	tells(t, d, binary(api.OpSub, sum, sum), zero)
	tells(t, d, unary(api.OpNeg, zero), zero)
	tells(t, d, extend(x, 8, true), x)
	tells(t, d, extend(seven, 8, true), seven)
	tells(t, d, extract(seven, 0, 8), seven)
	tells(t, d, ite(c, sum, sum), sum)
	// Other errors are ahead.
	fails(t, d, binary(0, x, y), api.ErrOp)
	fails(t, d, binary(api.OpAdd, x, 6), api.ErrTerm)
	fails(t, d, binary(api.OpAdd, x, c), api.ErrWidth)
}

func TestNoTermsAtAll(t *testing.T) {
	for _, d := range []*term.Dag{term.New(0), term.New(-1), term.New(api.MaxTerms + 1), term.New(5), new(term.Dag)} {
		fails(t, d, unary(api.OpAdd, 0), api.ErrOp)
		fails(t, d, unary(api.OpNot, 0), api.ErrTerm)
		fails(t, d, binary(api.OpNot, 0, 0), api.ErrOp)
		fails(t, d, binary(api.OpXor, 0, 0), api.ErrTerm)
		fails(t, d, ite(0, 0, 0), api.ErrTerm)
		fails(t, d, extract(0, 0, 1), api.ErrTerm)
		fails(t, d, concat(0, 0), api.ErrTerm)
		fails(t, d, extend(0, 0, false), api.ErrTerm)
		if x, known := Known(d, 0); x != 0 || known {
			t.Errorf("Known = %d, %v", x, known)
		}
	}
}

// The last term that there is room for, and none behind it.
func TestFullDag(t *testing.T) {
	d, ok := term.New(api.MaxTerms), must(t)
	id := ok(d.Var(64, 0))
	one := ok(d.Const(64, 1))
	for d.Len() < api.MaxTerms {
		id = ok(Binary(d, api.OpAdd, id, one))
	}
	if _, e := Binary(d, api.OpAdd, id, one); e != api.ErrLimit {
		t.Errorf("one more: %d", e)
	}
	if _, e := Binary(d, api.OpSub, id, id); e != api.ErrLimit {
		t.Errorf("0, which is not there: %d", e)
	}
	for _, c := range []call{binary(api.OpMul, id, one), binary(api.OpMul, one, id)} {
		if last, e := c.on(d); last != id || e != api.OK {
			t.Errorf("%v = %d, %d", c, last, e)
		}
	}
	if x, _ := sem.Value(d, id, []uint64{9}); x != 9+api.MaxTerms-2 {
		t.Errorf("the last one is %d", x)
	}
}

func TestNil(t *testing.T) {
	numbers := append([]int{-1, 0, 1, 8, 14, 15, 16, 64, 65, 256}, far...)
	for _, x := range numbers {
		for _, y := range numbers {
			for _, c := range []call{unary(x, y), binary(x, y, y), binary(x, 0, y), ite(x, y, y), ite(0, x, y), extract(x, y, y), extract(0, x, y), concat(x, y),
				extend(x, y, false), extend(x, y, true)} {
				fails(t, nil, c, api.ErrLimit)
			}
		}
		if w, known := Known(nil, x); w != 0 || known {
			t.Errorf("Known(%d) = %d, %v, of nil", x, w, known)
		}
	}
}

// Whatever is handed in: no panic, and errors that are chapter 15's.
func TestAnyNumbers(t *testing.T) {
	d, ok := term.New(api.MaxTerms), must(t)
	x, one := ok(d.Var(1, 0)), ok(d.Const(1, 1))
	ok(d.Binary(api.OpAdd, x, one))
	ok(d.Unary(api.OpNot, x))
	ok(d.Const(64, 1))
	ok(d.Var(64, 1))
	envs := [][]uint64{nil, {1, math.MaxUint64}}
	numbers := append([]int{-1, 0, 1, 2, 3, 4, 5, 6, 12, 15, 16, 63, 64, 65}, far...)
	was := nodes(d)
	for _, a := range numbers {
		d := again(t, was, api.MaxTerms)
		for _, b := range numbers {
			right(t, d, unary(a, b), envs)
			right(t, d, concat(a, b), envs)
			right(t, d, extend(a, b, true), envs)
			right(t, d, extend(a, b, false), envs)
			for _, c := range numbers {
				right(t, d, binary(a, b, c), envs)
				right(t, d, ite(a, b, c), envs)
				right(t, d, extract(a, b, c), envs)
			}
		}
	}
}

// Each on a dag of its own.
func TestAtTheSameTime(t *testing.T) {
	var all sync.WaitGroup
	for g := range 8 {
		all.Go(func() {
			d := term.New(3000)
			x, _ := d.Var(64, g)
			zero, _ := d.Const(64, 0)
			k := zero
			for i := range 1000 {
				step, _ := d.Const(64, uint64(g+1))
				k, _ = Binary(d, api.OpAdd, k, step)
				if y, known := Known(d, k); y != uint64((g+1)*(i+1)) || !known {
					t.Errorf("dag %d: %d, %v behind %d", g, y, known, i)
				}
				sum, _ := Binary(d, api.OpAdd, x, k)
				if id, e := Binary(d, api.OpXor, sum, zero); id != sum || e != api.OK {
					t.Errorf("dag %d: %d, %d, want %d", g, id, e, sum)
				}
				if id, e := Binary(d, api.OpSub, sum, sum); id != zero || e != api.OK {
					t.Errorf("dag %d: %d, %d, want %d", g, id, e, zero)
				}
			}
		})
	}
	all.Wait()
}
