package word

import (
	"math"
	"math/big"
	"testing"

	"breakwater/api"
)

const all = ^uint64(0)

// noWidths are ints around the edges of what a width may be, and far off.
var noWidths = []int{0, -1, -8, -64, math.MinInt, 65, 66, 128, 256, 1 << 32, math.MaxInt}

// noBinary and noUnary are numbers of no operator of two words, and of one.
var (
	noBinary = []int{0, -1, math.MinInt, api.OpNot, api.OpNeg, 17, api.TermConst, api.TermIte, 64, math.MaxInt}
	noUnary  = []int{0, -1, math.MinInt, api.OpAdd, api.OpSub, api.OpXor, api.OpSlt, 17, api.TermConst, 64, math.MaxInt}
)

// samples are words around the edges of width w, with bits above it too.
func samples(w int) []uint64 {
	top := uint64(1) << (w - 1)
	n := uint64(w)
	xs := []uint64{0, 1, 2, 3, 5, 7, n - 1, n, n + 1, 2 * n, top - 1, top, top + 1, 2*top - 2, 2*top - 1, 2 * top, 2*top + 1,
		63, 64, 65, 127, 128, 255, 256, 1 << 31, 1<<32 - 1, 1 << 32, 1<<63 - 1, 1 << 63, 1<<63 + 1, all - 1, all}
	// A rule of plain numbers, for words of no shape.
	x := uint64(0x9e3779b97f4a7c15)
	for range 12 {
		x = x*6364136223846793005 + 1442695040888963407
		xs = append(xs, x, x>>40)
	}
	return xs
}

func power(w int) *big.Int { return new(big.Int).Lsh(big.NewInt(1), uint(w)) }

// low is x as a number of no bound, without what stands above w bits.
func low(w int, x uint64) *big.Int {
	return new(big.Int).Mod(new(big.Int).SetUint64(x), power(w))
}

// signed is low, but that the highest bit counts below 0.
func signed(w int, x uint64) *big.Int {
	n := low(w, x)
	if n.Bit(w-1) == 1 {
		n.Sub(n, power(w))
	}
	return n
}

func truthOf(holds bool) *big.Int {
	if holds {
		return big.NewInt(1)
	}
	return big.NewInt(0)
}

// amount is by how many bits a word is moved: past the width more is the same.
func amount(w int, b *big.Int) uint {
	if b.Cmp(big.NewInt(int64(w))) >= 0 {
		return uint(w)
	}
	return uint(b.Uint64())
}

// want reckons what Binary is to tell, by numbers of no bound.
func want(op, w int, x, y uint64) uint64 {
	a, b, r := low(w, x), low(w, y), new(big.Int)
	switch op {
	case api.OpAdd:
		r.Add(a, b)
	case api.OpSub:
		r.Sub(a, b)
	case api.OpMul:
		r.Mul(a, b)
	case api.OpUdiv:
		if b.Sign() == 0 {
			r.SetInt64(-1)
		} else {
			r.Div(a, b)
		}
	case api.OpUrem:
		if b.Sign() == 0 {
			r.Set(a)
		} else {
			r.Mod(a, b)
		}
	case api.OpAnd:
		r.And(a, b)
	case api.OpOr:
		r.Or(a, b)
	case api.OpXor:
		r.Xor(a, b)
	case api.OpShl:
		r.Lsh(a, amount(w, b))
	case api.OpShr:
		r.Rsh(a, amount(w, b))
	case api.OpSar:
		r.Rsh(signed(w, x), amount(w, b))
	case api.OpEq:
		r = truthOf(a.Cmp(b) == 0)
	case api.OpUlt:
		r = truthOf(a.Cmp(b) < 0)
	case api.OpSlt:
		r = truthOf(signed(w, x).Cmp(signed(w, y)) < 0)
	}
	return r.Mod(r, power(w)).Uint64()
}

// wantUnary is want of one word.
func wantUnary(op, w int, x uint64) uint64 {
	r := low(w, x)
	if op == api.OpNot {
		r.Not(r)
	} else {
		r.Neg(r)
	}
	return r.Mod(r, power(w)).Uint64()
}

// Promise 1.1.

func TestMask(t *testing.T) {
	for _, c := range []struct {
		w    int
		want uint64
	}{{1, 1}, {2, 3}, {3, 7}, {8, 255}, {31, 1<<31 - 1}, {32, 1<<32 - 1}, {33, 1<<33 - 1}, {63, 1<<63 - 1}, {64, all}} {
		if got := Mask(c.w); got != c.want {
			t.Errorf("Mask(%d) = %#x, want %#x", c.w, got, c.want)
		}
	}
	for w := 1; w <= api.MaxWidth; w++ {
		if got, m := Mask(w), new(big.Int).Sub(power(w), big.NewInt(1)).Uint64(); got != m {
			t.Errorf("Mask(%d) = %#x, want %#x", w, got, m)
		}
	}
}

func TestCut(t *testing.T) {
	for _, c := range []struct {
		w       int
		x, want uint64
	}{{4, 255, 15}, {1, 2, 0}, {1, 3, 1}, {1, all, 1}, {8, 256, 0}, {8, 0x1ab, 0xab}, {63, all, 1<<63 - 1}, {64, all, all}, {64, 1 << 63, 1 << 63}, {64, 0, 0}} {
		if got := Cut(c.w, c.x); got != c.want {
			t.Errorf("Cut(%d, %#x) = %#x, want %#x", c.w, c.x, got, c.want)
		}
	}
	for w := 1; w <= api.MaxWidth; w++ {
		for _, x := range samples(w) {
			if got := Cut(w, x); got != low(w, x).Uint64() {
				t.Errorf("Cut(%d, %#x) = %#x", w, x, got)
			}
		}
	}
}

func TestSigned(t *testing.T) {
	for _, c := range []struct {
		w    int
		x    uint64
		want int
	}{
		{8, 255, -1}, {8, 127, 127}, {8, 128, -128}, {8, 129, -127}, {8, 0, 0}, {8, 0x17f, 127}, {8, 0x180, -128},
		{1, 0, 0}, {1, 1, -1}, {1, 2, 0}, {1, 3, -1},
		{63, 1<<62 - 1, 1<<62 - 1}, {63, 1 << 62, -1 << 62}, {63, 1 << 63, 0},
		{64, 1<<63 - 1, math.MaxInt}, {64, 1 << 63, math.MinInt}, {64, all, -1}, {64, 1, 1},
	} {
		if got := Signed(c.w, c.x); got != c.want {
			t.Errorf("Signed(%d, %#x) = %d, want %d", c.w, c.x, got, c.want)
		}
	}
	for w := 1; w <= api.MaxWidth; w++ {
		for _, x := range samples(w) {
			if got := Signed(w, x); int64(got) != signed(w, x).Int64() {
				t.Errorf("Signed(%d, %#x) = %d, want %d", w, x, got, signed(w, x))
			}
		}
	}
}

func TestNoWidthIsZero(t *testing.T) {
	for _, w := range noWidths {
		if got := Mask(w); got != 0 {
			t.Errorf("Mask(%d) = %#x", w, got)
		}
		for _, x := range []uint64{0, 1, 255, 1 << 63, all} {
			if got := Cut(w, x); got != 0 {
				t.Errorf("Cut(%d, %#x) = %#x", w, x, got)
			}
			if got := Signed(w, x); got != 0 {
				t.Errorf("Signed(%d, %#x) = %d", w, x, got)
			}
		}
	}
}

// Promise 1.2.

func TestBinaryTable(t *testing.T) {
	for _, c := range []struct {
		name     string
		op, w    int
		a, b, is uint64
	}{
		{"sum", api.OpAdd, 8, 200, 55, 255},
		{"sum wraps", api.OpAdd, 8, 200, 56, 0},
		{"sum of one bit", api.OpAdd, 1, 1, 1, 0},
		{"sum wraps at 64", api.OpAdd, 64, all, 2, 1},
		{"difference", api.OpSub, 8, 9, 2, 7},
		{"difference wraps", api.OpSub, 8, 1, 2, 255},
		{"difference wraps at 64", api.OpSub, 64, 0, 1, all},
		{"product", api.OpMul, 8, 15, 17, 255},
		{"product wraps", api.OpMul, 8, 16, 17, 16},
		{"product wraps at 64", api.OpMul, 64, all, all, 1},
		{"quotient", api.OpUdiv, 8, 250, 7, 35},
		{"quotient by 0", api.OpUdiv, 4, 7, 0, 15},
		{"quotient of 0 by 0", api.OpUdiv, 8, 0, 0, 255},
		{"quotient by 0 at 1", api.OpUdiv, 1, 0, 0, 1},
		{"quotient by 0 at 64", api.OpUdiv, 64, 7, 0, all},
		{"quotient by what is cut to 0", api.OpUdiv, 4, 7, 16, 15},
		{"quotient has no sign", api.OpUdiv, 64, all, 2, 1<<63 - 1},
		{"rest", api.OpUrem, 8, 250, 7, 5},
		{"rest by 0", api.OpUrem, 4, 7, 0, 7},
		{"rest by 0 is cut", api.OpUrem, 4, 0x37, 0, 7},
		{"rest by 0 at 1", api.OpUrem, 1, 1, 0, 1},
		{"rest by 0 at 64", api.OpUrem, 64, all, 0, all},
		{"rest by what is cut to 0", api.OpUrem, 4, 9, 0x30, 9},
		{"rest has no sign", api.OpUrem, 64, all, 10, 5},
		{"and", api.OpAnd, 4, 12, 10, 8},
		{"or", api.OpOr, 4, 12, 10, 14},
		{"exclusive or", api.OpXor, 4, 12, 10, 6},
		{"up", api.OpShl, 8, 0x81, 1, 2},
		{"up by 0", api.OpShl, 8, 0x81, 0, 0x81},
		{"up by w less 1", api.OpShl, 8, 0x81, 7, 0x80},
		{"up by w", api.OpShl, 8, 0x81, 8, 0},
		{"up by more than w", api.OpShl, 8, 0xff, 0xff, 0},
		{"up by what is cut", api.OpShl, 8, 1, 0x101, 2},
		{"up by 64", api.OpShl, 64, all, 64, 0},
		{"up by very many", api.OpShl, 64, all, all, 0},
		{"up by 2 to the 32", api.OpShl, 64, 1, 1 << 32, 0},
		{"up at 1", api.OpShl, 1, 1, 1, 0},
		{"down", api.OpShr, 8, 0x81, 1, 0x40},
		{"down by 0", api.OpShr, 8, 0x181, 0, 0x81},
		{"down lets nothing in from above", api.OpShr, 4, 0xff, 1, 7},
		{"down by w less 1", api.OpShr, 8, 0x81, 7, 1},
		{"down by w", api.OpShr, 8, 0xff, 8, 0},
		{"down by more than w", api.OpShr, 8, 0xff, 0xff, 0},
		{"down by 64", api.OpShr, 64, all, 64, 0},
		{"down by very many", api.OpShr, 64, all, 1 << 63, 0},
		{"down at 1", api.OpShr, 1, 1, 1, 0},
		{"sign down", api.OpSar, 4, 8, 1, 12},
		{"sign down, not set", api.OpSar, 4, 4, 1, 2},
		{"sign down by 0", api.OpSar, 4, 8, 0, 8},
		{"sign down by w less 1", api.OpSar, 8, 0x80, 7, 0xff},
		{"sign down by w", api.OpSar, 8, 0x80, 8, 0xff},
		{"sign down by w, not set", api.OpSar, 8, 0x7f, 8, 0},
		{"sign down by more than w", api.OpSar, 8, 0x80, 0xff, 0xff},
		{"sign down by more than w, not set", api.OpSar, 8, 0x7f, 0xff, 0},
		{"sign down of what is cut", api.OpSar, 8, 0x17f, 1, 0x3f},
		{"sign down by 64", api.OpSar, 64, 1 << 63, 64, all},
		{"sign down by 64, not set", api.OpSar, 64, 1<<63 - 1, 64, 0},
		{"sign down by very many", api.OpSar, 64, 1 << 63, all, all},
		{"sign down by very many, not set", api.OpSar, 64, 1<<63 - 1, all, 0},
		{"sign down at 1", api.OpSar, 1, 1, 1, 1},
		{"sign down at 1, not set", api.OpSar, 1, 0, 1, 0},
		{"equal", api.OpEq, 8, 5, 5, 1},
		{"equal once cut", api.OpEq, 8, 0x105, 5, 1},
		{"not equal", api.OpEq, 8, 5, 4, 0},
		{"not equal in the highest bit", api.OpEq, 64, 1 << 63, 0, 0},
		{"less", api.OpUlt, 8, 4, 5, 1},
		{"not less", api.OpUlt, 8, 5, 4, 0},
		{"not less than itself", api.OpUlt, 8, 5, 5, 0},
		{"less has no sign", api.OpUlt, 8, 1, 255, 1},
		{"less once cut", api.OpUlt, 8, 0x101, 2, 1},
		{"less at 64", api.OpUlt, 64, 1<<63 - 1, 1 << 63, 1},
		{"signed less", api.OpSlt, 8, 255, 1, 1},
		{"signed not less", api.OpSlt, 8, 1, 255, 0},
		{"signed not less than itself", api.OpSlt, 8, 255, 255, 0},
		{"signed less at the highest bit", api.OpSlt, 8, 0x80, 0x7f, 1},
		{"signed less, both below 0", api.OpSlt, 8, 0x80, 0xff, 1},
		{"signed less at 64", api.OpSlt, 64, 1 << 63, 1<<63 - 1, 1},
		{"signed less at 1", api.OpSlt, 1, 1, 0, 1},
		{"signed not less at 1", api.OpSlt, 1, 0, 1, 0},
	} {
		got, e := Binary(c.op, c.w, c.a, c.b)
		if got != c.is || e != api.OK {
			t.Errorf("%s: Binary(%d, %d, %#x, %#x) = %#x, %d, want %#x", c.name, c.op, c.w, c.a, c.b, got, e, c.is)
		}
	}
}

func TestUnaryTable(t *testing.T) {
	for _, c := range []struct {
		name  string
		op, w int
		a, is uint64
	}{
		{"not", api.OpNot, 4, 5, 10},
		{"not of what is cut", api.OpNot, 4, 0xf5, 10},
		{"not at 1", api.OpNot, 1, 0, 1},
		{"not at 64", api.OpNot, 64, 0, all},
		{"neg", api.OpNeg, 4, 1, 15},
		{"neg of 0", api.OpNeg, 4, 0, 0},
		{"neg of the highest bit", api.OpNeg, 4, 8, 8},
		{"neg of what is cut", api.OpNeg, 4, 0x11, 15},
		{"neg at 1", api.OpNeg, 1, 1, 1},
		{"neg at 64", api.OpNeg, 64, 1, all},
		{"neg of the highest bit at 64", api.OpNeg, 64, 1 << 63, 1 << 63},
	} {
		got, e := Unary(c.op, c.w, c.a)
		if got != c.is || e != api.OK {
			t.Errorf("%s: Unary(%d, %d, %#x) = %#x, %d, want %#x", c.name, c.op, c.w, c.a, got, e, c.is)
		}
	}
}

func checkBinary(t *testing.T, w int, a, b uint64) {
	for op := api.OpAdd; op <= api.OpSlt; op++ {
		if got, e := Binary(op, w, a, b); got != want(op, w, a, b) || e != api.OK {
			t.Errorf("Binary(%d, %d, %#x, %#x) = %#x, %d, want %#x", op, w, a, b, got, e, want(op, w, a, b))
		}
	}
}

func checkUnary(t *testing.T, w int, a uint64) {
	for op := api.OpNot; op <= api.OpNeg; op++ {
		if got, e := Unary(op, w, a); got != wantUnary(op, w, a) || e != api.OK {
			t.Errorf("Unary(%d, %d, %#x) = %#x, %d, want %#x", op, w, a, got, e, wantUnary(op, w, a))
		}
	}
}

// Narrow words are gone over one by one, with a bit above the width as well.
func TestAllNarrowWords(t *testing.T) {
	for w := 1; w <= 4; w++ {
		for a := uint64(0); a < 2<<w; a++ {
			checkUnary(t, w, a)
			for b := uint64(0); b < 2<<w; b++ {
				checkBinary(t, w, a, b)
			}
		}
	}
}

func TestWordsOfEveryWidth(t *testing.T) {
	for w := 1; w <= api.MaxWidth; w++ {
		for _, a := range samples(w) {
			checkUnary(t, w, a)
			for _, b := range samples(w) {
				checkBinary(t, w, a, b)
			}
		}
	}
}

func TestErrors(t *testing.T) {
	widths := []int{1, 8, 64}
	for _, op := range noBinary {
		// ErrOp is asked first, so no width beside it does not count.
		for _, w := range append(widths, noWidths...) {
			if got, e := Binary(op, w, all, all); got != 0 || e != api.ErrOp {
				t.Errorf("Binary(%d, %d, ..) = %#x, %d, want 0, ErrOp", op, w, got, e)
			}
		}
	}
	for _, op := range noUnary {
		for _, w := range append(widths, noWidths...) {
			if got, e := Unary(op, w, 5); got != 0 || e != api.ErrOp {
				t.Errorf("Unary(%d, %d, ..) = %#x, %d, want 0, ErrOp", op, w, got, e)
			}
		}
	}
	for _, w := range noWidths {
		for op := api.OpAdd; op <= api.OpSlt; op++ {
			for _, b := range []uint64{0, 3, all} {
				if got, e := Binary(op, w, all, b); got != 0 || e != api.ErrWidth {
					t.Errorf("Binary(%d, %d, ..) = %#x, %d, want 0, ErrWidth", op, w, got, e)
				}
			}
		}
		for op := api.OpNot; op <= api.OpNeg; op++ {
			if got, e := Unary(op, w, 5); got != 0 || e != api.ErrWidth {
				t.Errorf("Unary(%d, %d, ..) = %#x, %d, want 0, ErrWidth", op, w, got, e)
			}
		}
	}
}

// Promise 1.3.

func TestQuotientAndRest(t *testing.T) {
	for w := 1; w <= api.MaxWidth; w++ {
		for _, x := range samples(w) {
			for _, y := range samples(w) {
				checkQuotientAndRest(t, w, x, y)
			}
		}
	}
}

func checkQuotientAndRest(t *testing.T, w int, x, y uint64) {
	q, _ := Binary(api.OpUdiv, w, x, y)
	r, _ := Binary(api.OpUrem, w, x, y)
	a, b := low(w, x), low(w, y)
	if b.Sign() != 0 {
		// The sum is of numbers of no bound: nothing wraps round to a.
		sum := new(big.Int).Mul(new(big.Int).SetUint64(q), b)
		sum.Add(sum, new(big.Int).SetUint64(r))
		if sum.Cmp(a) != 0 {
			t.Errorf("width %d: %#x by %#x: %#x, rest %#x: together %#x", w, x, y, q, r, sum)
		}
		if new(big.Int).SetUint64(r).Cmp(b) >= 0 {
			t.Errorf("width %d: %#x by %#x: rest %#x", w, x, y, r)
		}
	}
	// By words too, and by 0 as well: there the product is 0 and the rest a.
	p, _ := Binary(api.OpMul, w, q, y)
	s, _ := Binary(api.OpAdd, w, p, r)
	if same, e := Binary(api.OpEq, w, s, x); same != 1 || e != api.OK {
		t.Errorf("width %d: %#x by %#x: the words together are %#x", w, x, y, s)
	}
	less, e := Binary(api.OpUlt, w, r, y)
	if (less == 1) != (b.Sign() != 0) || e != api.OK {
		t.Errorf("width %d: %#x by %#x: rest %#x is less: %d", w, x, y, r, less)
	}
}
