package shift

import (
	"math"
	"math/big"
	"math/rand"
	"slices"
	"sync"
	"testing"

	"breakwater/api"
	"breakwater/arith"
	"breakwater/gate"
	"breakwater/lit"
	"breakwater/mult"
	"breakwater/sat"
	"breakwater/unit"
	"breakwater/word"
)

// below are numbers that are no literals.
var below = []int{-1, -2, -3, -64, -65, -2 * api.MaxVars, math.MinInt32, math.MinInt / 2, math.MinInt + 1, math.MinInt}

// beyond are literals of variables that are not there.
func beyond(g *gate.Gates) []int {
	n := 2 * g.Vars()
	return []int{n, n + 1, n + 2, 3*n + 1, math.MaxInt32, 1 << 32, math.MaxInt/2 + 1, math.MaxInt - 1, math.MaxInt}
}

// rising is words in order, each once.
func rising(l []*big.Int) []*big.Int {
	slices.SortFunc(l, (*big.Int).Cmp)
	return slices.CompactFunc(l, func(a, b *big.Int) bool { return a.Cmp(b) == 0 })
}

// words are words of w bits that are moved: with the highest bit set and not,
// with all bits set, or one, or each second one.
func words(w int) []*big.Int {
	top := power(w - 1)
	fives := new(big.Int).Div(greatest(w+w%2), number(3))
	pattern, _ := new(big.Int).SetString("fedcba98765432100123456789abcdef", 16)
	return rising([]*big.Int{
		number(0), number(1), near(w, number(2), 0), power(w / 2),
		near(w, top, -1), top, near(w, top, 1), greatest(w), near(w, greatest(w), -1),
		cut(w, fives), new(big.Int).Rsh(fives, 1), cut(w, pattern), new(big.Int).Xor(cut(w, pattern), greatest(w)),
	})
}

// distances are words of w bits by which others are moved: about 0, about the
// width and its double, about each power of two, and the greatest ones.
func distances(w int) []*big.Int {
	l := []*big.Int{number(0), near(w, greatest(w), -1), greatest(w)}
	for _, n := range []int{w / 2, w - 1, w, w + 1, 2 * w, 2*w + 1, 3 * w} {
		if x := number(n); x.Cmp(greatest(w)) <= 0 {
			l = append(l, x)
		}
	}
	for i := range w {
		l = append(l, power(i), near(w, power(i), -1), near(w, power(i), 1))
	}
	return rising(l)
}

// Ordinary rows.

func TestExample(t *testing.T) {
	for _, w := range []int{4, 5, 6, 7, 8, 9, 63, 64, 65, 100} {
		g := gate.New()
		constant := func(x int) []int {
			var l []int
			for i := range w {
				l = append(l, g.True()^(1-x>>i&1))
			}
			return l
		}
		told := Move(g, api.OpShl, constant(1), constant(3))
		known, ok := unit.Close(g.Clauses(), nil)
		if !ok || len(told) != w {
			t.Fatalf("Move(OpShl) of 1 by 3 (%d bits) = %v; Close is %v", w, told, ok)
		}
		for i, x := range constant(8) {
			if !has(known, told[i]^x) {
				t.Fatalf("Move(OpShl) of 1 by 3 (%d bits) is not 8", w)
			}
		}
	}
}

// What calls say of words of 1, 3 and 4 bits, in tables that are written out:
// a, by which it is moved, up, down, and down with its highest bit.
func TestTables(t *testing.T) {
	for _, of := range []struct {
		w     int
		cases [][5]int
	}{
		{1, [][5]int{{0, 0, 0, 0, 0}, {1, 0, 1, 1, 1}, {0, 1, 0, 0, 0}, {1, 1, 0, 0, 1}}},
		{3, [][5]int{
			{1, 0, 1, 1, 1}, {1, 1, 2, 0, 0}, {1, 2, 4, 0, 0}, {1, 3, 0, 0, 0}, {2, 1, 4, 1, 1}, {3, 3, 0, 0, 0},
			{3, 1, 6, 1, 1}, {4, 0, 4, 4, 4}, {4, 1, 0, 2, 6}, {4, 2, 0, 1, 7}, {4, 3, 0, 0, 7}, {4, 4, 0, 0, 7},
			{4, 7, 0, 0, 7}, {5, 1, 2, 2, 6}, {5, 2, 4, 1, 7}, {5, 3, 0, 0, 7}, {6, 1, 4, 3, 7}, {7, 7, 0, 0, 7},
			{7, 1, 6, 3, 7}, {7, 2, 4, 1, 7}, {3, 4, 0, 0, 0}, {3, 5, 0, 0, 0}, {6, 6, 0, 0, 7}, {0, 7, 0, 0, 0},
		}},
		{4, [][5]int{
			{0, 0, 0, 0, 0}, {1, 0, 1, 1, 1}, {1, 1, 2, 0, 0}, {1, 3, 8, 0, 0}, {1, 4, 0, 0, 0}, {8, 0, 8, 8, 8},
			{8, 1, 0, 4, 12}, {8, 2, 0, 2, 14}, {8, 3, 0, 1, 15}, {8, 4, 0, 0, 15}, {8, 5, 0, 0, 15}, {8, 8, 0, 0, 15},
			{8, 15, 0, 0, 15}, {15, 1, 14, 7, 15}, {15, 3, 8, 1, 15}, {15, 4, 0, 0, 15}, {15, 15, 0, 0, 15},
			{7, 1, 14, 3, 3}, {7, 2, 12, 1, 1}, {7, 3, 8, 0, 0}, {7, 4, 0, 0, 0}, {7, 12, 0, 0, 0}, {5, 1, 10, 2, 2},
			{10, 1, 4, 5, 13}, {10, 2, 8, 2, 14}, {10, 3, 0, 1, 15}, {9, 0, 9, 9, 9}, {6, 2, 8, 1, 1}, {11, 1, 6, 5, 13},
			{13, 2, 4, 3, 15}, {14, 1, 12, 7, 15}, {14, 3, 0, 1, 15}, {6, 8, 0, 0, 0}, {9, 9, 0, 0, 15},
		}},
	} {
		s := newSheet(t)
		rows := s.callAll(s.input(of.w), s.input(of.w))
		for _, c := range of.cases {
			s.holds(number(c[0]), number(c[1]))
			for i, o := range moves {
				if x := rows[i].now; x.Cmp(number(c[2+i])) != 0 {
					t.Errorf("%s of %d by %d (%d bits) is %v, not %d", o.name, c[0], c[1], of.w, x, c[2+i])
				}
			}
		}
	}
}

// Of small widths all words: both rows of Inputs, then one of them, with all
// constants on either side of it.
func TestAllWords(t *testing.T) {
	for w := 1; w <= 5; w++ {
		free := newSheet(t)
		free.callAll(free.input(w), free.input(w))
		free.holdsAll()
	}
	for w := 1; w <= 6; w++ {
		half := newSheet(t)
		in := half.input(w)
		for x := range 1 << w {
			known := half.constant(w, number(x))
			half.callAll(in, known)
			half.callAll(known, in)
		}
		half.holdsAll()
	}
}

func TestAllConstants(t *testing.T) {
	for w := 1; w <= 7; w++ {
		s := newSheet(t)
		for x := range 1 << w {
			for y := range 1 << w {
				s.callAll(s.constant(w, number(x)), s.constant(w, number(y)))
			}
		}
		s.holds()
	}
}

// Place by place an Input of its own, a constant of either truth, an Input
// that both rows share, or its Not.
func TestAllMixes(t *testing.T) {
	const w = 3
	for mix := range 216 {
		s := newSheet(t)
		in, known := s.input(2*w), s.constant(2, number(2))
		var a, b []bit
		for i := range w {
			own, shared := bit{of: in, place: i}, bit{of: in, place: w + i}
			yes, no := bit{of: known, place: 1}, bit{of: known, place: 0}
			from := [][2]bit{{own, shared}, {yes, own}, {own, no}, {shared, shared}, {shared, {of: in, place: w + i, not: true}}, {no, yes}}
			pair := from[mix%6]
			mix /= 6
			a, b = append(a, pair[0]), append(b, pair[1])
		}
		s.callAll(s.of(a...), s.of(b...))
		s.callAll(s.of(b...), s.of(a...))
		s.holdsAll()
	}
}

// At all widths, both rows of constants, or one, or none: by all distances.
func TestAllWidths(t *testing.T) {
	for w := 1; w <= api.MaxWidth+2; w++ {
		known, free := newSheet(t), newSheet(t)
		for i, x := range words(w) {
			for j, y := range distances(w) {
				// The wider ones take turns, as each takes its time.
				if w < 10 || (i+j)%8 == w%8 {
					known.callAll(known.constant(w, x), known.constant(w, y))
				}
			}
		}
		known.holds()
		free.callAll(free.input(w), free.input(w))
		for i, x := range words(w) {
			for j, y := range distances(w) {
				if w < 7 || (i+5*j)%16 == w%16 {
					free.holds(x, y)
				}
			}
		}
	}
}

// Widths that are powers of two, one less and one greater, and past the widest:
// moved by each number of bits from 0 to past the width, with the highest bit
// set and not.
func TestEachDistance(t *testing.T) {
	for _, w := range []int{2, 3, 4, 5, 7, 8, 9, 15, 16, 17, 31, 32, 33, 63, 64, 65, 127, 128, 129} {
		t.Run("", func(t *testing.T) {
			t.Parallel()
			rnd := rand.New(rand.NewSource(int64(w)))
			s := newSheet(t)
			s.callAll(s.input(w), s.input(w))
			for n := range w + 3 {
				x, y := new(big.Int).Rand(rnd, power(w)), cut(w, number(n))
				s.holds(x.SetBit(x, w-1, 0), y)
				s.holds(x.SetBit(x, w-1, 1), y)
			}
		})
	}
}

// By each power of two alone, and beside small ones: each bit of what a word
// is moved by counts, from the first that stands for more than the width on.
func TestEachBitCounts(t *testing.T) {
	for _, w := range []int{1, 2, 3, 4, 5, 8, 9, 33, 63, 64, 65, 100} {
		s := newSheet(t)
		s.callAll(s.input(w), s.input(w))
		for i := range w {
			s.holds(greatest(w), power(i))
			s.holds(near(w, power(w-1), 1), new(big.Int).Or(power(i), cut(w, number(3))))
			s.holds(near(w, power(w-1), -1), new(big.Int).SetBit(greatest(w), i, 0))
		}
	}
}

// By a constant of at least the width nothing is left but what comes in; by 0
// all of it is.
func TestAllGoneAndAllThere(t *testing.T) {
	for _, w := range []int{1, 2, 3, 4, 5, 8, 16, 31, 64, 65} {
		s := newSheet(t)
		a := s.input(w)
		there := s.callAll(a, s.constant(w, number(0)))
		gone := s.callAll(a, s.constant(w, greatest(w)))
		for _, x := range words(w) {
			s.holds(x)
			sign := number(0)
			if x.Bit(w-1) == 1 {
				sign = greatest(w)
			}
			for i, want := range []*big.Int{number(0), number(0), sign} {
				if there[i].now.Cmp(x) != 0 || gone[i].now.Cmp(want) != 0 {
					t.Fatalf("%s of %v (%d bits) is %v by 0, and %v by all bits", moves[i].name, x, w, there[i].now, gone[i].now)
				}
			}
		}
	}
}

// At the widest, and past it, where words have no operators any more: all
// distances with some words, and one side constant.
func TestWidest(t *testing.T) {
	for _, w := range []int{32, 63, 64, 65} {
		t.Run("", func(t *testing.T) {
			t.Parallel()
			s, some := newSheet(t), words(w)
			s.callAll(s.input(w), s.input(w))
			for i, y := range distances(w) {
				s.holds(some[i%len(some)], y)
				s.holds(some[(i+5)%len(some)], y)
			}
			s.holdsSome(rand.New(rand.NewSource(int64(w))), 50)
			byConstants := newSheet(t)
			in := byConstants.input(w)
			for _, y := range distances(w) {
				byConstants.callAll(in, byConstants.constant(w, y))
			}
			for _, x := range some {
				byConstants.callAll(byConstants.constant(w, x), in)
			}
			for _, y := range []*big.Int{number(0), number(5), number(w - 1), number(w), power(w - 1), greatest(w)} {
				byConstants.holds(y)
			}
		})
	}
}

// Rows that are longer than a word, some of them far.
func TestLongRows(t *testing.T) {
	for _, w := range []int{66, 100, 200, 255, 256, 257, 600} {
		s := newSheet(t)
		s.callAll(s.input(w), s.input(w))
		x, y := power(w/3), near(w, power(2*w/3), -1)
		z := new(big.Int).Xor(greatest(w), y)
		for _, a := range []*big.Int{x, y, z} {
			for _, n := range []int{0, 1, 63, 64, 65, w / 2, w - 1, w, w + 1} {
				s.holds(a, number(n))
			}
			s.holds(a, power(w-1))
			s.holds(a, new(big.Int).Or(power(64), number(1)))
			s.holds(a, greatest(w))
		}
		s.holdsSome(rand.New(rand.NewSource(int64(w))), 1000/w)
	}
	const w = 5000
	s := newSheet(t)
	for _, n := range []int{0, 1, 4095, 4096, 4999, 5000} {
		s.callAll(s.constant(w, near(w, power(4999), 12345)), s.constant(w, number(n)))
	}
	s.holds()
}

// Rows of the same bits: one row twice, its Nots, turned about, and one bit at
// all places.
func TestRowsOfTheSameBits(t *testing.T) {
	for w := 1; w <= 6; w++ {
		s := newSheet(t)
		in := s.input(w)
		var back, one []bit
		for i := range w {
			back = append(back, bit{of: in, place: w - 1 - i})
			one = append(one, bit{of: in})
		}
		from := []*row{in, s.nots(in), s.of(back...), s.nots(s.of(back...)), s.of(one...), s.nots(s.of(one...))}
		for _, a := range from {
			for _, b := range from {
				s.callAll(a, b)
			}
		}
		s.holdsAll()
	}
	s := newSheet(t)
	in := s.input(64)
	turned := s.nots(in)
	s.callAll(in, in)
	s.callAll(in, turned)
	s.callAll(turned, in)
	s.callAll(turned, turned)
	for _, x := range distances(64) {
		s.holds(x)
		s.holds(new(big.Int).Xor(x, greatest(64)))
	}
}

// The same rows to each operator, one behind the other, on gates of their own
// or on the same ones.
func TestOperatorsBesideOneAnother(t *testing.T) {
	for w := 1; w <= 4; w++ {
		for _, o := range moves {
			s := newSheet(t)
			s.call(o, s.input(w), s.input(w))
			s.holdsAll()
			s.call(o, s.rows[0], s.rows[1])
			s.callAll(s.rows[0], s.rows[1])
			s.holdsAll()
		}
	}
}

// Rows that overlap in memory go as such that do not.
func TestRowsThatOverlap(t *testing.T) {
	for _, o := range moves {
		g, all := inputs(7)
		was := slices.Clone(all)
		told := o.ask(g, all[:5], all[2:])
		other, _ := inputs(7)
		apart := o.ask(other, slices.Clone(was[:5]), slices.Clone(was[2:]))
		if !slices.Equal(all, was) || !same(told, apart) || len(told[0]) != 5 {
			t.Errorf("%s of rows that overlap told %v, and apart %v", o.name, told, apart)
		}
	}
}

// Rows that other calls told, some deep.
func TestDeepRows(t *testing.T) {
	s := newSheet(t)
	a, b := s.input(6), s.input(6)
	for i := range 12 {
		c := s.call(moves[i%3], a, b)[0]
		d := s.call(others[i%len(others)], b, c)[0]
		a = s.call(sar, s.nots(c), s.call(shr, d, s.call(shl, b, c)[0])[0])[0]
		b = s.call(others[(i+1)%2], d, s.call(moves[(i+1)%3], a, a)[0])[0]
	}
	for _, x := range distances(6) {
		for _, y := range words(6) {
			s.holds(x, y)
		}
	}
	s.holdsSome(rand.New(rand.NewSource(3)), 100)
}

// What always holds of moves, a solver finds no exception to.
func TestSolverFindsNoException(t *testing.T) {
	const w = 5
	g, all := inputs(2 * w)
	a, b := all[:w], all[w:]
	bits := func(x uint64) []int { return arith.Const(g, w, x) }
	nots := func(l []int) []int { return arith.Sub(g, bits(31), l) }
	up, down, signed := Move(g, api.OpShl, a, b), Move(g, api.OpShr, a, b), Move(g, api.OpSar, a, b)
	single := Move(g, api.OpShl, bits(1), b)
	quotient, _ := mult.Divide(g, a, single)
	isFar := lit.Not(arith.Less(g, b, bits(w)))
	for name, is := range map[string]int{
		"a up by 1 is a + a":                     arith.Equal(g, Move(g, api.OpShl, a, bits(1)), arith.Add(g, a, a)),
		"a up by b is a * (1 up by b)":           arith.Equal(g, up, mult.Mul(g, a, single)),
		"a down by b is a / (1 up by b)":         g.Or(isFar, arith.Equal(g, down, quotient)),
		"far up is 0":                            g.Or(lit.Not(isFar), arith.Equal(g, up, bits(0))),
		"far down is 0":                          g.Or(lit.Not(isFar), arith.Equal(g, down, bits(0))),
		"signed is the Nots of the Nots, down":   arith.Equal(g, signed, arith.Ite(g, a[w-1], nots(Move(g, api.OpShr, nots(a), b)), down)),
		"down is no greater than a":              lit.Not(arith.Less(g, a, down)),
		"signed has the highest bit that a has":  lit.Not(g.Xor(a[w-1], signed[w-1])),
		"up and down again is no greater than a": lit.Not(arith.Less(g, a, Move(g, api.OpShr, up, b))),
	} {
		res, e := sat.Solve(g.Vars(), append(g.Clauses(), []int{lit.Not(is)}), 200000)
		if e != api.OK || res.Status != api.Unsat {
			t.Errorf("%s: %d, %d", name, res.Status, e)
		}
	}
}

// A solver finds what is moved, and by what.
func TestSolverFindsMoves(t *testing.T) {
	const w = 8
	for _, c := range []struct {
		op        int
		told, odd uint64
	}{
		{api.OpShl, 0x60, 1}, {api.OpShl, 0x80, 1}, {api.OpShr, 5, 1}, {api.OpShr, 0x35, 0}, {api.OpSar, 0xfd, 0}, {api.OpSar, 0xff, 0}, {api.OpSar, 0x2e, 1},
	} {
		g, all := inputs(2 * w)
		a, b := all[:w], all[w:]
		is := arith.Equal(g, Move(g, c.op, a, b), arith.Const(g, w, c.told))
		clauses := append(g.Clauses(), []int{is}, []int{a[0] ^ int(1-c.odd)})
		res, e := sat.Solve(g.Vars(), clauses, 100000)
		if e != api.OK || res.Status != api.Sat {
			t.Fatalf("moves by the operator %d to %#x: %d, %d", c.op, c.told, res.Status, e)
		}
		x, y := model(a, res.Model), model(b, res.Model)
		if told, e := word.Binary(c.op, w, x, y); e != api.OK || told != c.told || x&1 != c.odd {
			t.Errorf("the operator %d was said to tell %#x of %#x and %#x", c.op, c.told, x, y)
		}
	}
}

// model is the word of a row in a solver's truths.
func model(row []int, m []bool) uint64 {
	x := uint64(0)
	for i, l := range row {
		if lit.Holds(l, m) {
			x |= 1 << i
		}
	}
	return x
}

// None.

// inputs are gates with so many Inputs.
func inputs(n int) (*gate.Gates, []int) {
	g := gate.New()
	row := []int{}
	for range n {
		row = append(row, g.Input())
	}
	return g, row
}

func same(a, b [][]int) bool {
	return slices.EqualFunc(a, b, func(c, d []int) bool { return slices.Equal(c, d) })
}

// isNone asks that op tells none of a and b, and that nothing has changed:
// neither the rows, nor g.
func isNone(t *testing.T, op int, g *gate.Gates, a, b []int) {
	t.Helper()
	wasA, wasB, vars, clauses := slices.Clone(a), slices.Clone(b), g.Vars(), len(g.Clauses())
	if told := Move(g, op, a, b); len(told) != 0 {
		t.Fatalf("the operator %d of %v and %v told the row %v", op, wasA, wasB, told)
	}
	if !slices.Equal(a, wasA) || !slices.Equal(b, wasB) {
		t.Fatalf("the operator %d left %v and %v of %v and %v", op, a, b, wasA, wasB)
	}
	if g.Vars() != vars || len(g.Clauses()) != clauses {
		t.Fatalf("the operator %d of %v and %v told none, and yet made gates", op, wasA, wasB)
	}
}

// areNone is isNone of each operator that moves.
func areNone(t *testing.T, g *gate.Gates, a, b []int) {
	t.Helper()
	for _, op := range []int{api.OpShl, api.OpShr, api.OpSar} {
		isNone(t, op, g, a, b)
	}
}

// noMoves are operators that do not move, and numbers that are no operators.
func noMoves() []int {
	var l []int
	for op := -300; op <= 70000; op++ {
		if op < api.OpShl || op > api.OpSar {
			l = append(l, op)
		}
	}
	for _, op := range []int{0, api.OpShl, api.OpShr, api.OpSar} {
		for _, n := range []int{16, 20, 31, 32, 33, 48, 62, 63} {
			l = append(l, op+1<<n, op-1<<n, -op-1<<n)
		}
		l = append(l, -op, ^op)
	}
	return append(l, math.MaxInt32, math.MinInt32, math.MaxInt-1, math.MaxInt, math.MinInt+1, math.MinInt)
}

func TestOtherOperators(t *testing.T) {
	g, all := inputs(16)
	ops := noMoves()
	for op := api.OpAdd; op <= api.OpNeg; op++ {
		if is := op == api.OpShl || op == api.OpShr || op == api.OpSar; is == slices.Contains(ops, op) {
			t.Fatalf("of the operator %d nothing is asked", op)
		}
	}
	for _, op := range ops {
		isNone(t, op, g, all[:8], all[8:])
		isNone(t, op, g, all[:1], all[:1])
		isNone(t, op, g, []int{0, 1, 1}, []int{1, 0, 1})
	}
}

// Operators that do not move, of rows that are none.
func TestOtherOperatorsOfNoRows(t *testing.T) {
	g, all := inputs(4)
	rows := [][]int{nil, {}, all, all[:3], {-1}, {2, -1}, {math.MinInt, 2, 4, 6}, {math.MaxInt}, {2, 4, 6, 10}}
	for _, op := range []int{math.MinInt, -1, 0, 1, api.OpXor, api.OpEq, api.OpNeg, api.TermConst, api.TermSext, math.MaxInt} {
		for _, a := range rows {
			for _, b := range rows {
				isNone(t, op, g, a, b)
				isNone(t, op, nil, a, b)
			}
		}
	}
}

func TestUnlikeLengths(t *testing.T) {
	lengths := []int{0, 1, 2, 3, 4, 8, 9, 63, 64, 65, 66, 128, 200}
	for _, n := range lengths {
		for _, m := range lengths {
			if n == m {
				continue
			}
			g, all := inputs(n + m)
			areNone(t, g, all[:n], all[n:])
			areNone(t, g, all[:n], all[:m])
			areNone(t, g, make([]int, n), make([]int, m))
			areNone(t, g, slices.Repeat([]int{1}, n), all[:m])
			areNone(t, g, all[:m], slices.Repeat([]int{1}, n))
		}
	}
}

func TestEmptyRows(t *testing.T) {
	g, all := inputs(8)
	empty := [][]int{nil, {}, make([]int, 0, 8), all[:0]}
	for _, a := range empty {
		for _, b := range append(slices.Clone(empty), all[:1], all, []int{-1}, []int{0}, []int{math.MaxInt}) {
			areNone(t, g, a, b)
			areNone(t, g, b, a)
		}
	}
}

// Numbers below 0, and literals of variables that are not there, at each place
// of either row, of both, and at all places.
func TestWrongLiterals(t *testing.T) {
	for _, n := range []int{1, 2, 3, 8, 64, 65} {
		g, all := inputs(2 * n)
		a, b := all[:n], all[n:]
		right := [][]int{a, b, slices.Repeat([]int{0}, n), slices.Repeat([]int{1}, n)}
		for _, x := range append(beyond(g), below...) {
			for place := range n {
				wrong := slices.Clone(a)
				wrong[place] = x
				areNone(t, g, wrong, wrong)
				for _, other := range right {
					areNone(t, g, wrong, other)
					areNone(t, g, other, wrong)
				}
			}
			wrong := slices.Repeat([]int{x}, n)
			areNone(t, g, wrong, wrong)
			areNone(t, g, wrong, b)
			areNone(t, g, a, wrong)
		}
	}
}

// A wrong literal among constants, which say by themselves what comes of them.
func TestWrongLiteralsAmongConstants(t *testing.T) {
	for _, n := range []int{1, 2, 4} {
		g, all := inputs(n)
		for _, among := range []int{0, 1} {
			for _, x := range append(beyond(g), below...) {
				for place := range n {
					wrong := slices.Repeat([]int{among}, n)
					wrong[place] = x
					for _, other := range [][]int{all, slices.Repeat([]int{0}, n), slices.Repeat([]int{1}, n), wrong} {
						areNone(t, g, wrong, other)
						areNone(t, g, other, wrong)
					}
				}
			}
		}
	}
}

// A wrong literal and unlike lengths at once: also behind the shorter's end.
func TestWrongLiteralsOfUnlikeLengths(t *testing.T) {
	g, all := inputs(4)
	for _, x := range append(beyond(g), below...) {
		for place := range 4 {
			wrong := slices.Clone(all)
			wrong[place] = x
			for n := range 4 {
				areNone(t, g, wrong, all[:n])
				areNone(t, g, all[:n], wrong)
			}
		}
	}
}

// The literal of a variable that comes next is right as soon as it is there.
func TestNextVariable(t *testing.T) {
	for _, o := range moves {
		for _, place := range []int{0, 2} {
			g, all := inputs(3)
			wrong := slices.Clone(all)
			wrong[place] = 2*g.Vars() + 1
			areNone(t, g, wrong, all)
			areNone(t, g, all, wrong)
			g.Input()
			if told := o.ask(g, wrong, all); len(told[0]) != 3 {
				t.Errorf("%s of %v and %v told %v", o.name, wrong, all, told)
			}
			if told := o.ask(g, all, wrong); len(told[0]) != 3 {
				t.Errorf("%s of %v and %v told %v", o.name, all, wrong, told)
			}
		}
	}
}

func TestNilGates(t *testing.T) {
	rows := [][]int{nil, {}, {0}, {1}, {-1}, {0, 1}, {2, 3}, {math.MaxInt}, {math.MinInt, 0}, {0, 2, 4, 6}, make([]int, 64), make([]int, 65)}
	for _, a := range rows {
		for _, b := range rows {
			areNone(t, nil, a, b)
		}
	}
}

// Gates that New did not make have no variable, so that no row is theirs.
func TestZeroGates(t *testing.T) {
	for _, row := range [][]int{nil, {0}, {1}, {2, 4}, {-1}, {math.MaxInt}} {
		areNone(t, &gate.Gates{}, row, row)
	}
}

// Rules that hold everywhere.

// What was told is memory of its own: who writes to it changes neither what
// was handed in, nor the gates.
func TestRowsAreNew(t *testing.T) {
	for _, o := range moves {
		for _, w := range []int{1, 2, 3, 8, 64} {
			g, all := inputs(2 * w)
			yes, no := slices.Repeat([]int{0}, w), slices.Repeat([]int{1}, w)
			for _, rows := range [][2][]int{{all[:w], all[w:]}, {all[:w], yes}, {all[:w], no}, {no, all[:w]}, {yes, yes}, {all[:w], all[:w]}} {
				a, b := slices.Clone(rows[0]), slices.Clone(rows[1])
				told := o.ask(g, rows[0], rows[1])[0]
				for i := range told {
					told[i] = -9
				}
				for i, x := range append(told, -9, -9) {
					if x != -9 {
						t.Fatalf("%s told a row whose bit %d is %d", o.name, i, x)
					}
				}
				if !slices.Equal(rows[0], a) || !slices.Equal(rows[1], b) {
					t.Fatalf("%s shares memory with what it was handed", o.name)
				}
				for _, c := range g.Clauses() {
					if slices.Contains(c, -9) {
						t.Fatalf("%s shares memory with the clauses", o.name)
					}
				}
			}
		}
	}
}

// mixed are the widths of rows that the tests below grow.
var mixed = []int{1, 2, 5, 8, 16, 33}

func grown(t *testing.T, seed int64, calls int) *sheet {
	s := newSheet(t)
	s.grow(rand.New(rand.NewSource(seed)), calls, mixed, 80)
	return s
}

func asksSame(t *testing.T, a, b *sheet) {
	t.Helper()
	if !slices.Equal(a.literals(), b.literals()) || a.g.Vars() != b.g.Vars() || !same(a.g.Clauses(), b.g.Clauses()) {
		t.Error("the same calls told others")
	}
}

// The same calls in the same order tell the same, also with others between,
// on other gates.
func TestSameCallsTellTheSame(t *testing.T) {
	for seed := range int64(10) {
		a, b, c := newSheet(t), newSheet(t), newSheet(t)
		one, two, three := rand.New(rand.NewSource(seed)), rand.New(rand.NewSource(seed)), rand.New(rand.NewSource(seed+50))
		for range 20 {
			a.grow(one, 1, mixed, 80)
			c.grow(three, 1, mixed, 80)
			b.grow(two, 1, mixed, 80)
		}
		asksSame(t, a, b)
	}
}

// What is asked for behind wrong calls is as it would be without them.
func TestWrongCallsLeaveNothing(t *testing.T) {
	a, b := newSheet(t), newSheet(t)
	one, two := rand.New(rand.NewSource(4)), rand.New(rand.NewSource(4))
	for i := range 40 {
		a.grow(one, 1, mixed, 80)
		b.grow(two, 1, mixed, 80)
		all := b.literals()
		areNone(t, b.g, all[:1], []int{below[i%len(below)]})
		areNone(t, b.g, []int{all[0], math.MaxInt}, []int{all[0], all[0]})
		areNone(t, b.g, all, all[1:])
		isNone(t, api.OpAdd, b.g, all, all)
		isNone(t, math.MinInt, b.g, all, all)
	}
	asksSame(t, a, b)
}

// Calls at the same time, on gates of their own, do not touch one another.
func TestAtTheSameTime(t *testing.T) {
	sheets := make([]*sheet, 8)
	var all sync.WaitGroup
	for i := range sheets {
		all.Go(func() { sheets[i] = grown(t, int64(i/2), 30) })
	}
	all.Wait()
	for i, s := range sheets {
		asksSame(t, s, grown(t, int64(i/2), 30))
		s.holdsSome(rand.New(rand.NewSource(1)), 3)
	}
}

// The same rows may be handed in at the same time, as nobody writes to them.
func TestSameRowsAtTheSameTime(t *testing.T) {
	_, rows := inputs(16)
	told := make([][][]int, 6)
	var all sync.WaitGroup
	for i := range told {
		all.Go(func() {
			g, _ := inputs(16)
			for _, o := range moves {
				told[i] = append(told[i], o.ask(g, rows[:8], rows[8:])...)
			}
		})
	}
	all.Wait()
	for _, l := range told {
		if len(l) != 3 || !same(l, told[0]) {
			t.Errorf("the same calls told %v and %v", told[0], l)
		}
	}
}
