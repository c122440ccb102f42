package term

import (
	"math"
	"slices"
	"sync"
	"testing"

	"breakwater/api"
)

// far are numbers out to the ends of int.
var far = []int{math.MinInt, math.MinInt + 1, math.MinInt / 2, math.MinInt32, math.MaxInt32, 1 << 32, math.MaxInt / 2, math.MaxInt - 1, math.MaxInt}

// noWidths are numbers that are no width, noVars none of a variable.
var (
	noWidths = append([]int{0, -1, -8, -64, 65, 66, 128, 256}, far...)
	noVars   = append([]int{-1, -2, -256, api.MaxInputs, api.MaxInputs + 1, 2 * api.MaxInputs}, far...)
)

// noUnary and noBinary are no operators of one term, and of two.
var (
	noUnary  = append([]int{0, -1, 1, 2, 6, 13, 14, 17, 18, 20, 21, 22, 23, 24, 25, 26, 27, 64, -15, -16}, far...)
	noBinary = append([]int{0, -1, 15, 16, 17, 18, 20, 21, 22, 23, 24, 25, 26, 27, 64, -14}, far...)
)

// noTerms are numbers of none of d's terms.
func noTerms(d *Dag) []int {
	return append([]int{-1, -2, d.Len(), d.Len() + 1, d.Len() + 1000, api.MaxTerms}, far...)
}

// must is the number that c tells, which is to go well.
func must(t *testing.T, d *Dag, c call) int {
	t.Helper()
	id, e := c.on(d)
	if e != api.OK {
		t.Fatalf("%v tells %d", c, e)
	}
	return id
}

// terms are all that d has.
func terms(d *Dag) []api.Node {
	var l []api.Node
	for id := range d.Len() {
		n, _ := d.Node(id)
		l = append(l, n)
	}
	return l
}

// fails asks that c tells 0 and the error, and makes nothing.
func fails(t *testing.T, d *Dag, c call, want api.Errno) {
	t.Helper()
	was := terms(d)
	if id, e := c.on(d); id != 0 || e != want {
		t.Errorf("%v = %d, %d, want 0, %d", c, id, e, want)
	}
	if now := terms(d); !slices.Equal(now, was) {
		t.Fatalf("%v: behind the error there are %+v, want %+v", c, now, was)
	}
}

// makes asks that c makes just this term, and that it is told again, and not
// made, by whoever asks again.
func makes(t *testing.T, d *Dag, c call, want api.Node) int {
	t.Helper()
	was := terms(d)
	id, e := c.on(d)
	if id != len(was) || e != api.OK {
		t.Fatalf("%v = %d, %d, want %d, %d", c, id, e, len(was), api.OK)
	}
	if now := terms(d); !slices.Equal(now, append(was, want)) {
		t.Fatalf("%v: then there are %+v, want %+v and %+v", c, now, was, want)
	}
	tells(t, d, c, id)
	return id
}

// tells asks that c tells this number, and makes nothing.
func tells(t *testing.T, d *Dag, c call, want int) {
	t.Helper()
	was := terms(d)
	if id, e := c.on(d); id != want || e != api.OK {
		t.Fatalf("%v = %d, %d, want %d, %d", c, id, e, want, api.OK)
	}
	if now := terms(d); !slices.Equal(now, was) {
		t.Fatalf("%v: then there are %+v, want %+v", c, now, was)
	}
}

// bits is a dag of room for 1000 terms, with a variable of each width: the
// number of the one of w bits is w - 1.
func bits(t *testing.T) *Dag {
	t.Helper()
	d := New(1000)
	for w := 1; w <= api.MaxWidth; w++ {
		if id := must(t, d, varOf(w, w)); id != w-1 {
			t.Fatalf("the variable of %d bits is %d, want %d", w, id, w-1)
		}
	}
	return d
}

// Promise 15.1.

func TestNewRoom(t *testing.T) {
	for _, c := range []struct{ most, room int }{
		{math.MinInt, 0}, {math.MinInt32, 0}, {-2, 0}, {-1, 0}, {0, 0}, {1, 1}, {2, 2}, {100, 100},
		{api.MaxTerms - 1, api.MaxTerms - 1}, {api.MaxTerms, api.MaxTerms}, {api.MaxTerms + 1, 0}, {2 * api.MaxTerms, 0},
		{math.MaxInt32, 0}, {1 << 32, 0}, {math.MaxInt, 0},
	} {
		d := New(c.most)
		if d == nil {
			t.Fatalf("New(%d) is nil", c.most)
		}
		if d.Len() != 0 {
			t.Errorf("New(%d) has %d terms", c.most, d.Len())
		}
		for i := range c.room {
			if id, e := d.Const(64, uint64(i)); id != i || e != api.OK {
				t.Fatalf("New(%d): Const(64, %d) = %d, %d", c.most, i, id, e)
			}
		}
		for range 2 {
			if id, e := d.Const(64, math.MaxUint64); id != 0 || e != api.ErrLimit {
				t.Errorf("New(%d): one more than %d: %d, %d, want 0, %d", c.most, c.room, id, e, api.ErrLimit)
			}
		}
		for i := range c.room {
			if id, e := d.Const(64, uint64(i)); id != i || e != api.OK {
				t.Fatalf("New(%d): Const(64, %d) again = %d, %d", c.most, i, id, e)
			}
		}
		if d.Len() != c.room {
			t.Errorf("New(%d) has %d terms, want %d", c.most, d.Len(), c.room)
		}
	}
}

// kinds are calls of which each makes a term, in a new dag, of those ahead.
var kinds = []struct {
	c call
	n api.Node
}{
	{constOf(8, 300), api.Node{Op: api.TermConst, Width: 8, Val: 44}},
	{varOf(8, 3), api.Node{Op: api.TermVar, Width: 8, A: 3}},
	{unary(api.OpNot, 1), api.Node{Op: api.OpNot, Width: 8, A: 1}},
	{unary(api.OpNeg, 1), api.Node{Op: api.OpNeg, Width: 8, A: 1}},
	{binary(api.OpAdd, 1, 0), api.Node{Op: api.OpAdd, Width: 8, A: 1}},
	{binary(api.OpUlt, 1, 3), api.Node{Op: api.OpUlt, Width: 1, A: 1, B: 3}},
	{ite(5, 3, 4), api.Node{Op: api.TermIte, Width: 8, A: 5, B: 3, C: 4}},
	{extract(6, 2, 5), api.Node{Op: api.TermExt, Width: 5, A: 6, B: 2}},
	{concat(6, 7), api.Node{Op: api.TermCat, Width: 13, A: 6, B: 7}},
	{extend(8, 64, false), api.Node{Op: api.TermZext, Width: 64, A: 8}},
	{extend(8, 64, true), api.Node{Op: api.TermSext, Width: 64, A: 8}},
}

func TestNumbersInOrder(t *testing.T) {
	d := New(len(kinds))
	for i, k := range kinds {
		if id := makes(t, d, k.c, k.n); id != i {
			t.Errorf("%v is %d, want %d", k.c, id, i)
		}
	}
	// There are as many as may be now: each is told nevertheless.
	for range 2 {
		for i, k := range slices.Backward(kinds) {
			tells(t, d, k.c, i)
		}
	}
}

func TestNoRoom(t *testing.T) {
	for room := range kinds {
		d := New(room)
		for _, k := range kinds[:room] {
			must(t, d, k.c)
		}
		fails(t, d, kinds[room].c, api.ErrLimit)
		for i, k := range kinds[:room] {
			tells(t, d, k.c, i)
		}
	}
	d := New(len(kinds))
	for _, k := range kinds {
		must(t, d, k.c)
	}
	for _, c := range []call{
		constOf(8, 45), constOf(9, 44), constOf(64, 44), varOf(8, 2), varOf(1, 0), varOf(64, 255), unary(api.OpNot, 0), unary(api.OpNeg, 10),
		binary(api.OpAdd, 0, 1), binary(api.OpSub, 1, 0), binary(api.OpSlt, 9, 10), ite(5, 4, 3), ite(5, 0, 0),
		extract(6, 2, 4), extract(6, 1, 5), extract(6, 0, 8), concat(7, 6), concat(0, 0), extend(8, 63, false), extend(8, 63, true), extend(7, 64, false),
	} {
		fails(t, d, c, api.ErrLimit)
	}
	// What makes nothing needs no room.
	tells(t, d, extend(9, 64, true), 9)
	tells(t, d, extend(5, 1, false), 5)
}

// A variable for which there was no room is not there, of no width.
func TestNoRoomForAVariable(t *testing.T) {
	for _, d := range []*Dag{New(0), New(-1)} {
		fails(t, d, varOf(8, 3), api.ErrLimit)
		fails(t, d, varOf(9, 3), api.ErrLimit)
		fails(t, d, varOf(8, 3), api.ErrLimit)
	}
	d := New(1)
	must(t, d, varOf(8, 3))
	fails(t, d, varOf(8, 4), api.ErrLimit)
	fails(t, d, varOf(9, 4), api.ErrLimit)
	fails(t, d, varOf(9, 3), api.ErrWidth)
	tells(t, d, varOf(8, 3), 0)
}

// Behind an error a variable may still be of any width.
func TestErrorsLeaveVariablesFree(t *testing.T) {
	d := New(10)
	fails(t, d, varOf(0, 3), api.ErrWidth)
	fails(t, d, varOf(65, 3), api.ErrWidth)
	must(t, d, varOf(7, 2))
	fails(t, d, varOf(8, 2), api.ErrWidth)
	fails(t, d, varOf(8, 256), api.ErrVar)
	makes(t, d, varOf(9, 3), api.Node{Op: api.TermVar, Width: 9, A: 3})
	tells(t, d, varOf(7, 2), 0)
}

func TestErrorsComeAheadOfLimit(t *testing.T) {
	full := New(3)
	must(t, full, constOf(8, 1))
	must(t, full, varOf(9, 3))
	must(t, full, varOf(60, 4))
	for _, c := range []struct {
		c call
		e api.Errno
	}{
		{constOf(0, 1), api.ErrWidth}, {constOf(65, 1), api.ErrWidth},
		{varOf(0, 0), api.ErrWidth}, {varOf(8, 256), api.ErrVar}, {varOf(8, 3), api.ErrWidth},
		{unary(api.OpAdd, 0), api.ErrOp}, {unary(api.OpNot, 3), api.ErrTerm},
		{binary(api.OpNot, 0, 0), api.ErrOp}, {binary(api.OpAdd, 0, 3), api.ErrTerm}, {binary(api.OpAdd, 0, 1), api.ErrWidth},
		{ite(0, 0, 3), api.ErrTerm}, {ite(0, 0, 0), api.ErrWidth},
		{extract(3, 0, 1), api.ErrTerm}, {extract(0, 0, 9), api.ErrWidth},
		{concat(0, 3), api.ErrTerm}, {concat(0, 2), api.ErrWidth},
		{extend(3, 8, false), api.ErrTerm}, {extend(0, 7, false), api.ErrWidth}, {extend(0, 65, true), api.ErrWidth},
	} {
		fails(t, full, c.c, c.e)
	}
	// Of no terms all are none.
	for _, c := range []call{unary(api.OpNot, 0), binary(api.OpAdd, 0, 0), ite(0, 0, 0), extract(0, 0, 1), concat(0, 0), extend(0, 1, true)} {
		fails(t, New(0), c, api.ErrTerm)
		fails(t, New(5), c, api.ErrTerm)
	}
}

// Promise 15.2.

func TestConst(t *testing.T) {
	d := New(1000)
	for w := 1; w <= api.MaxWidth; w++ {
		top := uint64(1) << (w - 1)
		id := makes(t, d, constOf(w, 0), api.Node{Op: api.TermConst, Width: w})
		if w < api.MaxWidth {
			tells(t, d, constOf(w, 2*top), id)
			tells(t, d, constOf(w, 1<<63), id)
		}
		id = makes(t, d, constOf(w, math.MaxUint64), api.Node{Op: api.TermConst, Width: w, Val: top + (top - 1)})
		tells(t, d, constOf(w, top+(top-1)), id)
		if w > 1 {
			id = makes(t, d, constOf(w, top), api.Node{Op: api.TermConst, Width: w, Val: top})
			tells(t, d, constOf(w, top|top<<1|top<<2), id)
		}
	}
	for _, w := range noWidths {
		for _, x := range []uint64{0, 1, math.MaxUint64} {
			fails(t, d, constOf(w, x), api.ErrWidth)
		}
	}
}

func TestConstExample(t *testing.T) {
	d := New(5)
	makes(t, d, constOf(8, 300), api.Node{Op: api.TermConst, Width: 8, Val: 44})
	tells(t, d, constOf(8, 44), 0)
	makes(t, d, constOf(9, 44), api.Node{Op: api.TermConst, Width: 9, Val: 44})
	makes(t, d, constOf(9, 300), api.Node{Op: api.TermConst, Width: 9, Val: 300})
	makes(t, d, constOf(7, 44), api.Node{Op: api.TermConst, Width: 7, Val: 44})
}

func TestVar(t *testing.T) {
	d := New(1000)
	for w := 1; w <= api.MaxWidth; w++ {
		makes(t, d, varOf(w, w), api.Node{Op: api.TermVar, Width: w, A: w})
	}
	for _, i := range []int{0, api.MaxInputs - 2, api.MaxInputs - 1} {
		makes(t, d, varOf(8, i), api.Node{Op: api.TermVar, Width: 8, A: i})
	}
	for w := 1; w <= api.MaxWidth; w++ {
		for i := 1; i <= api.MaxWidth; i++ {
			if i == w {
				tells(t, d, varOf(w, i), i-1)
			} else {
				fails(t, d, varOf(w, i), api.ErrWidth)
			}
		}
	}
}

func TestEachVariable(t *testing.T) {
	d := New(api.MaxInputs)
	for i := range api.MaxInputs {
		makes(t, d, varOf(1+i%api.MaxWidth, i), api.Node{Op: api.TermVar, Width: 1 + i%api.MaxWidth, A: i})
	}
	for i := range api.MaxInputs {
		fails(t, d, varOf(1+(i+1)%api.MaxWidth, i), api.ErrWidth)
		tells(t, d, varOf(1+i%api.MaxWidth, i), i)
	}
}

func TestVarErrors(t *testing.T) {
	d := New(10)
	must(t, d, varOf(8, 0))
	must(t, d, varOf(8, 255))
	for _, i := range noVars {
		fails(t, d, varOf(1, i), api.ErrVar)
		// Neither variable is of this width, and yet there is no such i.
		fails(t, d, varOf(9, i), api.ErrVar)
		fails(t, d, varOf(64, i), api.ErrVar)
		for _, w := range noWidths {
			fails(t, d, varOf(w, i), api.ErrWidth)
		}
	}
	for _, w := range noWidths {
		for _, i := range []int{0, 1, 255} {
			fails(t, d, varOf(w, i), api.ErrWidth)
		}
	}
	for _, w := range []int{1, 7, 9, 64} {
		fails(t, d, varOf(w, 0), api.ErrWidth)
		fails(t, d, varOf(w, 255), api.ErrWidth)
	}
}

func TestUnary(t *testing.T) {
	d := bits(t)
	for w := 1; w <= api.MaxWidth; w++ {
		makes(t, d, unary(api.OpNot, w-1), api.Node{Op: api.OpNot, Width: w, A: w - 1})
		makes(t, d, unary(api.OpNeg, w-1), api.Node{Op: api.OpNeg, Width: w, A: w - 1})
	}
	// Of itself it is another one, and nothing is made simpler here.
	twice := d.Len()
	makes(t, d, unary(api.OpNot, twice-2), api.Node{Op: api.OpNot, Width: 64, A: twice - 2})
	makes(t, d, unary(api.OpNot, twice), api.Node{Op: api.OpNot, Width: 64, A: twice})
	for _, a := range noTerms(d) {
		fails(t, d, unary(api.OpNot, a), api.ErrTerm)
		fails(t, d, unary(api.OpNeg, a), api.ErrTerm)
	}
	for op := api.OpAdd; op <= api.OpSlt; op++ {
		fails(t, d, unary(op, 0), api.ErrOp)
	}
	for _, op := range noUnary {
		fails(t, d, unary(op, 0), api.ErrOp)
		for _, a := range noTerms(d) {
			fails(t, d, unary(op, a), api.ErrOp)
		}
	}
}

func TestBinary(t *testing.T) {
	for op := api.OpAdd; op <= api.OpSlt; op++ {
		d := bits(t)
		for w := 1; w <= api.MaxWidth; w++ {
			wide := w
			if op == api.OpEq || op == api.OpUlt || op == api.OpSlt {
				wide = 1
			}
			a, b := w-1, must(t, d, constOf(w, 1))
			makes(t, d, binary(op, a, b), api.Node{Op: op, Width: wide, A: a, B: b})
			makes(t, d, binary(op, b, a), api.Node{Op: op, Width: wide, A: b, B: a})
			makes(t, d, binary(op, a, a), api.Node{Op: op, Width: wide, A: a, B: a})
		}
	}
}

// Operators of the same terms are terms of their own.
func TestBinaryOperatorsDiffer(t *testing.T) {
	d := New(100)
	must(t, d, varOf(1, 0))
	for op := api.OpAdd; op <= api.OpSlt; op++ {
		makes(t, d, binary(op, 0, 0), api.Node{Op: op, Width: 1})
	}
	for op := api.OpAdd; op <= api.OpSlt; op++ {
		tells(t, d, binary(op, 0, 0), op)
	}
}

func TestBinaryErrors(t *testing.T) {
	d := bits(t)
	wrong := noTerms(d)
	for op := api.OpAdd; op <= api.OpSlt; op++ {
		for _, x := range wrong {
			fails(t, d, binary(op, x, 0), api.ErrTerm)
			fails(t, d, binary(op, 0, x), api.ErrTerm)
			fails(t, d, binary(op, x, x), api.ErrTerm)
			fails(t, d, binary(op, x, wrong[0]), api.ErrTerm)
		}
		for _, ab := range [][2]int{{0, 1}, {1, 0}, {7, 8}, {0, 63}, {63, 0}, {62, 63}} {
			fails(t, d, binary(op, ab[0], ab[1]), api.ErrWidth)
		}
	}
	for _, op := range noBinary {
		fails(t, d, binary(op, 0, 0), api.ErrOp)
		fails(t, d, binary(op, 0, 1), api.ErrOp)
		for _, x := range wrong {
			fails(t, d, binary(op, x, 0), api.ErrOp)
			fails(t, d, binary(op, 0, x), api.ErrOp)
			fails(t, d, binary(op, x, x), api.ErrOp)
		}
	}
}

func TestIte(t *testing.T) {
	d := bits(t)
	for w := 1; w <= api.MaxWidth; w++ {
		a, b := w-1, must(t, d, constOf(w, 1))
		makes(t, d, ite(0, a, b), api.Node{Op: api.TermIte, Width: w, A: 0, B: a, C: b})
		makes(t, d, ite(0, b, a), api.Node{Op: api.TermIte, Width: w, A: 0, B: b, C: a})
		makes(t, d, ite(0, b, b), api.Node{Op: api.TermIte, Width: w, A: 0, B: b, C: b})
	}
	c := makes(t, d, binary(api.OpUlt, 7, 7), api.Node{Op: api.OpUlt, Width: 1, A: 7, B: 7})
	makes(t, d, ite(c, 63, 63), api.Node{Op: api.TermIte, Width: 64, A: c, B: 63, C: 63})
}

func TestIteErrors(t *testing.T) {
	d := bits(t)
	for _, x := range noTerms(d) {
		for _, c := range []call{ite(x, 0, 0), ite(0, x, 0), ite(0, 0, x), ite(x, x, 0), ite(x, 0, x), ite(0, x, x), ite(x, x, x)} {
			fails(t, d, c, api.ErrTerm)
		}
		// ErrTerm is ahead of ErrWidth of the others.
		for _, c := range []call{ite(x, 0, 1), ite(7, x, 0), ite(7, 0, x), ite(63, x, x)} {
			fails(t, d, c, api.ErrTerm)
		}
	}
	for w := 2; w <= api.MaxWidth; w++ {
		fails(t, d, ite(w-1, 0, 0), api.ErrWidth)
		fails(t, d, ite(w-1, w-1, w-1), api.ErrWidth)
		fails(t, d, ite(w-1, 0, w-1), api.ErrWidth)
		fails(t, d, ite(0, w-1, w-2), api.ErrWidth)
		fails(t, d, ite(0, w-2, w-1), api.ErrWidth)
		fails(t, d, ite(0, 0, w-1), api.ErrWidth)
	}
}

func TestExtract(t *testing.T) {
	for wide := 1; wide <= api.MaxWidth; wide++ {
		d := New(api.MaxTerms)
		must(t, d, varOf(wide, 0))
		for _, lo := range []int{-1, 0, 1, wide / 2, wide - 2, wide - 1, wide, wide + 1} {
			for _, w := range []int{-1, 0, 1, 2, wide - lo - 1, wide - lo, wide - lo + 1, wide, wide + 1, 64, 65} {
				c := extract(0, lo, w)
				switch {
				case w < 1 || lo < 0 || lo+w > wide:
					fails(t, d, c, api.ErrWidth)
				default:
					id := must(t, d, c)
					if n, _ := d.Node(id); n != (api.Node{Op: api.TermExt, Width: w, A: 0, B: lo}) {
						t.Fatalf("%v of %d bits is %+v", c, wide, n)
					}
					tells(t, d, c, id)
				}
			}
		}
	}
}

func TestExtractEdges(t *testing.T) {
	d := New(100)
	must(t, d, varOf(8, 0))
	must(t, d, varOf(64, 1))
	// All of it is no term that is there already.
	makes(t, d, extract(0, 0, 8), api.Node{Op: api.TermExt, Width: 8})
	makes(t, d, extract(1, 0, 64), api.Node{Op: api.TermExt, Width: 64, A: 1})
	makes(t, d, extract(0, 0, 1), api.Node{Op: api.TermExt, Width: 1})
	makes(t, d, extract(0, 7, 1), api.Node{Op: api.TermExt, Width: 1, B: 7})
	makes(t, d, extract(1, 63, 1), api.Node{Op: api.TermExt, Width: 1, A: 1, B: 63})
	makes(t, d, extract(0, 4, 4), api.Node{Op: api.TermExt, Width: 4, B: 4})
	makes(t, d, extract(0, 4, 3), api.Node{Op: api.TermExt, Width: 3, B: 4})
	for _, c := range []call{extract(0, 0, 0), extract(0, 0, 9), extract(0, 8, 1), extract(0, 7, 2), extract(0, 4, 5), extract(0, -1, 1),
		extract(0, -1, 8), extract(0, 8, 0), extract(1, 64, 1), extract(1, 0, 65), extract(1, 1, 64)} {
		fails(t, d, c, api.ErrWidth)
	}
	for _, x := range far {
		for _, y := range append([]int{-1, 0, 1, 8, 9}, far...) {
			fails(t, d, extract(0, x, y), api.ErrWidth)
			fails(t, d, extract(0, y, x), api.ErrWidth)
			fails(t, d, extract(1, x, y), api.ErrWidth)
		}
	}
	for _, a := range noTerms(d) {
		for _, x := range append([]int{-1, 0, 1, 65}, far...) {
			fails(t, d, extract(a, 0, x), api.ErrTerm)
			fails(t, d, extract(a, x, 1), api.ErrTerm)
			fails(t, d, extract(a, x, x), api.ErrTerm)
		}
	}
}

func TestConcat(t *testing.T) {
	d := New(api.MaxTerms)
	for w := 1; w <= api.MaxWidth; w++ {
		must(t, d, varOf(w, w))
	}
	for a := range api.MaxWidth {
		for _, b := range []int{0, 1, 31, 62 - a, 63 - a, 61 - a, 62, 63} {
			if b < 0 || b >= api.MaxWidth {
				continue
			}
			c, wide := concat(a, b), a+1+b+1
			if wide > api.MaxWidth {
				fails(t, d, c, api.ErrWidth)
				continue
			}
			id := must(t, d, c)
			if n, _ := d.Node(id); n != (api.Node{Op: api.TermCat, Width: wide, A: a, B: b}) {
				t.Fatalf("%v is %+v", c, n)
			}
			tells(t, d, c, id)
		}
	}
}

func TestConcatEdges(t *testing.T) {
	d := bits(t)
	makes(t, d, concat(0, 62), api.Node{Op: api.TermCat, Width: 64, A: 0, B: 62})
	makes(t, d, concat(62, 0), api.Node{Op: api.TermCat, Width: 64, A: 62, B: 0})
	makes(t, d, concat(31, 31), api.Node{Op: api.TermCat, Width: 64, A: 31, B: 31})
	makes(t, d, concat(0, 0), api.Node{Op: api.TermCat, Width: 2})
	for _, c := range []call{concat(0, 63), concat(63, 0), concat(31, 32), concat(32, 31), concat(1, 62), concat(63, 63)} {
		fails(t, d, c, api.ErrWidth)
	}
	for _, x := range noTerms(d) {
		for _, c := range []call{concat(x, 0), concat(0, x), concat(x, x), concat(63, x), concat(x, 63)} {
			fails(t, d, c, api.ErrTerm)
		}
	}
}

func TestExtend(t *testing.T) {
	for wide := 1; wide <= api.MaxWidth; wide++ {
		d := New(1000)
		// So that the number that is told is not 0, as beside an error.
		must(t, d, constOf(1, 1))
		a := must(t, d, varOf(wide, 0))
		for _, signed := range []bool{false, true} {
			op := api.TermZext
			if signed {
				op = api.TermSext
			}
			fails(t, d, extend(a, wide-1, signed), api.ErrWidth)
			tells(t, d, extend(a, wide, signed), a)
			for w := wide + 1; w <= api.MaxWidth; w++ {
				makes(t, d, extend(a, w, signed), api.Node{Op: op, Width: w, A: a})
			}
			for _, w := range noWidths {
				fails(t, d, extend(a, w, signed), api.ErrWidth)
			}
			for _, x := range noTerms(d) {
				for _, w := range append([]int{wide - 1, wide, 64}, noWidths...) {
					fails(t, d, extend(x, w, signed), api.ErrTerm)
				}
			}
		}
	}
}

// Promise 15.3.

func TestNodeAndWidth(t *testing.T) {
	d := New(100)
	for id, k := range kinds {
		if d.Len() != id {
			t.Fatalf("Len() = %d, want %d", d.Len(), id)
		}
		if n, ok := d.Node(id); n != (api.Node{}) || ok {
			t.Errorf("Node(%d) = %+v, %v, ahead of it being made", id, n, ok)
		}
		if w := d.Width(id); w != 0 {
			t.Errorf("Width(%d) = %d, ahead of it being made", id, w)
		}
		must(t, d, k.c)
	}
	for range 2 {
		for id, k := range kinds {
			if n, ok := d.Node(id); n != k.n || !ok {
				t.Errorf("Node(%d) = %+v, %v, want %+v, true", id, n, ok, k.n)
			}
			if w := d.Width(id); w != k.n.Width {
				t.Errorf("Width(%d) = %d, want %d", id, w, k.n.Width)
			}
		}
		for _, id := range noTerms(d) {
			if n, ok := d.Node(id); n != (api.Node{}) || ok {
				t.Errorf("Node(%d) = %+v, %v, want none", id, n, ok)
			}
			if w := d.Width(id); w != 0 {
				t.Errorf("Width(%d) = %d, want 0", id, w)
			}
		}
		if d.Len() != len(kinds) {
			t.Errorf("Len() = %d, want %d", d.Len(), len(kinds))
		}
	}
}

func TestNil(t *testing.T) {
	var d *Dag
	numbers := append([]int{-1, 0, 1, 8, 14, 15, 16, 64, 65, 256}, far...)
	for _, x := range numbers {
		for _, y := range numbers {
			for _, c := range []call{constOf(x, uint64(y)), varOf(x, y), unary(x, y), binary(x, y, y), ite(x, y, y), extract(x, y, y),
				concat(x, y), extend(x, y, false), extend(x, y, true)} {
				fails(t, d, c, api.ErrLimit)
			}
		}
		if n, ok := d.Node(x); n != (api.Node{}) || ok {
			t.Errorf("Node(%d) = %+v, %v on nil", x, n, ok)
		}
		if w := d.Width(x); w != 0 {
			t.Errorf("Width(%d) = %d on nil", x, w)
		}
	}
	if d.Len() != 0 {
		t.Errorf("Len() = %d on nil", d.Len())
	}
}

// What nobody made by New has no room.
func TestZeroDag(t *testing.T) {
	d := new(Dag)
	fails(t, d, constOf(8, 1), api.ErrLimit)
	fails(t, d, varOf(8, 1), api.ErrLimit)
	fails(t, d, unary(api.OpNot, 0), api.ErrTerm)
}

func TestDagsAreTheirOwn(t *testing.T) {
	a, b := New(3), New(3)
	must(t, a, constOf(8, 1))
	must(t, a, varOf(8, 0))
	makes(t, b, varOf(9, 0), api.Node{Op: api.TermVar, Width: 9})
	makes(t, b, constOf(8, 1), api.Node{Op: api.TermConst, Width: 8, Val: 1})
	fails(t, a, varOf(9, 0), api.ErrWidth)
	fails(t, b, varOf(8, 0), api.ErrWidth)
	tells(t, a, constOf(8, 1), 0)
	tells(t, b, constOf(8, 1), 1)
}

func TestAtTheSameTime(t *testing.T) {
	var all sync.WaitGroup
	for g := range 8 {
		all.Go(func() {
			d := New(2000 + g)
			for i := range 3000 {
				want := api.OK
				if i >= 2000+g {
					want = api.ErrLimit
				}
				if id, e := d.Const(64, uint64(i*(g+1))); e != want || e == api.OK && id != i {
					t.Errorf("dag %d: Const(64, %d) = %d, %d", g, i*(g+1), id, e)
					return
				}
			}
			if d.Len() != 2000+g {
				t.Errorf("dag %d has %d terms", g, d.Len())
			}
		})
	}
	all.Wait()
}
