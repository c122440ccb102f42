package mult

import (
	"math"
	"math/big"
	"math/rand"
	"slices"
	"sync"
	"testing"

	"breakwater/api"
	"breakwater/arith"
	"breakwater/gate"
	"breakwater/lit"
	"breakwater/sat"
	"breakwater/unit"
)

// below are numbers that are no literals.
var below = []int{-1, -2, -3, -64, -65, -2 * api.MaxVars, math.MinInt32, math.MinInt / 2, math.MinInt + 1, math.MinInt}

// beyond are literals of variables that are not there.
func beyond(g *gate.Gates) []int {
	n := 2 * g.Vars()
	return []int{n, n + 1, n + 2, 3*n + 1, math.MaxInt32, 1 << 32, math.MaxInt/2 + 1, math.MaxInt - 1, math.MaxInt}
}

// edges are words of w bits about which products and quotients turn.
func edges(w int) []*big.Int {
	top, half := power(w-1), power(w/2)
	all := []*big.Int{
		number(0), number(1), number(2), number(3), near(w, half, -1), half, near(w, half, 1),
		near(w, top, -1), top, near(w, top, 1), near(w, greatest(w), -1), greatest(w),
		cut(w, number(0xfedcba9876543210)), cut(w, number(0x5555555555555555)),
	}
	for i, x := range all {
		all[i] = cut(w, x)
	}
	slices.SortFunc(all, (*big.Int).Cmp)
	return slices.CompactFunc(all, func(a, b *big.Int) bool { return a.Cmp(b) == 0 })
}

// divisors are words that a is divided by: about 0, about a itself, about its
// half, and the greatest ones.
func divisors(w int, a *big.Int) []*big.Int {
	half := new(big.Int).Rsh(a, 1)
	return []*big.Int{
		number(0), number(1), cut(w, number(2)), near(w, half, 0), near(w, half, 1),
		near(w, a, -1), a, near(w, a, 1), power(w - 1), greatest(w),
	}
}

// Ordinary rows.

func TestExample(t *testing.T) {
	for _, w := range []int{3, 4, 8, 63, 64, 65, 100} {
		g := gate.New()
		constant := func(x int) []int {
			var l []int
			for i := range w {
				l = append(l, g.True()^(1-x>>i&1))
			}
			return l
		}
		q, r := Divide(g, constant(7), constant(2))
		known, ok := unit.Close(g.Clauses(), nil)
		if !ok || len(q) != w || len(r) != w {
			t.Fatalf("Divide of 7 by 2 (%d bits) = %v, %v; Close is %v", w, q, r, ok)
		}
		for i := range w {
			if !has(known, q[i]^(1-3>>i&1)) || !has(known, r[i]^(1-1>>i&1)) {
				t.Fatalf("Divide of 7 by 2 (%d bits) is not 3, 1", w)
			}
		}
	}
}

// What calls say of words of 4 bits, in a table that is written out.
func TestTable(t *testing.T) {
	s := newSheet(t)
	a, b := s.input(4), s.input(4)
	rows := append(s.call(mul, a, b), s.call(divide, a, b)...)
	for _, c := range [][5]uint64{
		{0, 0, 0, 15, 0}, {0, 1, 0, 0, 0}, {1, 0, 0, 15, 1}, {1, 1, 1, 1, 0}, {2, 3, 6, 0, 2}, {3, 2, 6, 1, 1},
		{4, 4, 0, 1, 0}, {5, 3, 15, 1, 2}, {5, 5, 9, 1, 0}, {7, 2, 14, 3, 1}, {7, 0, 0, 15, 7}, {8, 0, 0, 15, 8},
		{8, 1, 8, 8, 0}, {8, 2, 0, 4, 0}, {8, 8, 0, 1, 0}, {8, 9, 8, 0, 8}, {9, 8, 8, 1, 1}, {9, 2, 2, 4, 1},
		{14, 15, 2, 0, 14}, {15, 0, 0, 15, 15}, {15, 1, 15, 15, 0}, {15, 2, 14, 7, 1}, {15, 4, 12, 3, 3},
		{15, 7, 9, 2, 1}, {15, 8, 8, 1, 7}, {15, 14, 2, 1, 1}, {15, 15, 1, 1, 0}, {13, 3, 7, 4, 1}, {13, 5, 1, 2, 3},
	} {
		s.holds(number(c[0]), number(c[1]))
		for i, name := range []string{"product", "quotient", "rest"} {
			if x := rows[i].now; x.Cmp(number(c[2+i])) != 0 {
				t.Errorf("the %s of %d and %d is %v, not %d", name, c[0], c[1], x, c[2+i])
			}
		}
	}
}

// Of small widths all words: both rows of Inputs, then one of them, with all
// constants on either side of it.
func TestAllWords(t *testing.T) {
	for _, o := range both {
		for w := 1; w <= 5; w++ {
			free, half := newSheet(t), newSheet(t)
			free.call(o, free.input(w), free.input(w))
			free.holdsAll()
			in := half.input(w)
			for x := range uint64(1) << w {
				known := half.constant(w, number(x))
				half.call(o, in, known)
				half.call(o, known, in)
			}
			half.holdsAll()
		}
	}
}

func TestAllConstants(t *testing.T) {
	for _, o := range both {
		for w := 1; w <= 6; w++ {
			s := newSheet(t)
			for x := range uint64(1) << w {
				for y := range uint64(1) << w {
					s.call(o, s.constant(w, number(x)), s.constant(w, number(y)))
				}
			}
			s.holds()
		}
	}
}

// Place by place an Input of its own, a constant of either truth, an Input
// that both rows share, or its Not.
func TestAllMixes(t *testing.T) {
	const w = 3
	for mix := range 216 {
		s := newSheet(t)
		in, known := s.input(2*w), s.constant(2, number(2))
		var a, b []bit
		for i := range w {
			own, shared := bit{of: in, place: i}, bit{of: in, place: w + i}
			yes, no := bit{of: known, place: 1}, bit{of: known, place: 0}
			from := [][2]bit{{own, shared}, {yes, own}, {own, no}, {shared, shared}, {shared, {of: in, place: w + i, not: true}}, {no, yes}}
			pair := from[mix%6]
			mix /= 6
			a, b = append(a, pair[0]), append(b, pair[1])
		}
		for _, o := range both {
			s.call(o, s.of(a...), s.of(b...))
			s.call(o, s.of(b...), s.of(a...))
		}
		s.holdsAll()
	}
}

// By 0 all bits of the quotient are set, and the rest is what was divided:
// where the 0 is a constant, where it is of Inputs, and where a call told it.
func TestDivideByNought(t *testing.T) {
	for _, w := range []int{1, 2, 3, 4, 8, 31, 64, 65} {
		s := newSheet(t)
		a, b := s.input(w), s.input(w)
		told := s.call(divide, a, s.constant(w, number(0)))
		told = append(told, s.call(divide, a, b)...)
		less := s.call(others[1], a, a)[0]
		told = append(told, s.call(divide, a, less)...)
		told = append(told, s.call(divide, a, s.call(mul, b, s.constant(w, number(0)))[0])...)
		for _, x := range edges(w) {
			s.holds(x, number(0))
			for i := 0; i < len(told); i += 2 {
				if told[i].now.Cmp(greatest(w)) != 0 || told[i+1].now.Cmp(x) != 0 {
					t.Fatalf("%v by 0 (%d bits) is %v, and the rest %v", x, w, told[i].now, told[i+1].now)
				}
			}
		}
	}
}

// At all widths, both rows of constants, or one, or none: products that pass
// the width, 0, 1, the highest bit alone and the greatest word on either side,
// divisors about what is divided.
func TestAllWidths(t *testing.T) {
	for w := 1; w <= api.MaxWidth; w++ {
		known := newSheet(t)
		for _, a := range edges(w) {
			for _, b := range edges(w) {
				known.call(mul, known.constant(w, a), known.constant(w, b))
			}
			for _, b := range divisors(w, a) {
				known.call(divide, known.constant(w, a), known.constant(w, b))
			}
		}
		known.holds()
		s := newSheet(t)
		a, b := s.input(w), s.input(w)
		s.call(mul, a, b)
		s.call(divide, a, b)
		for i, x := range edges(w) {
			for j, y := range edges(w) {
				// The wider ones take turns, as each takes its time.
				if w < 10 || (i+5*j)%24 == w%24 {
					s.holds(x, y)
				}
			}
		}
	}
}

// At the widest, and past it, where words have no operators any more: all
// edges of either side.
func TestWidest(t *testing.T) {
	for _, w := range []int{32, 63, 64, 65} {
		t.Run("", func(t *testing.T) {
			t.Parallel()
			s := newSheet(t)
			a, b := s.input(w), s.input(w)
			s.call(mul, a, b)
			s.call(divide, a, b)
			for _, x := range edges(w) {
				for _, y := range divisors(w, x) {
					s.holds(x, y)
				}
			}
			s.holdsSome(rand.New(rand.NewSource(int64(w))), 20)
		})
	}
}

// One side constant at the widest: each edge on either side of Inputs.
func TestWidestByConstants(t *testing.T) {
	for _, w := range []int{33, 64, 65} {
		t.Run("", func(t *testing.T) {
			t.Parallel()
			for _, x := range edges(w) {
				s := newSheet(t)
				in, known := s.input(w), s.constant(w, x)
				for _, o := range both {
					s.call(o, in, known)
					s.call(o, known, in)
				}
				for _, y := range divisors(w, x) {
					s.holds(y)
				}
			}
		})
	}
}

// Powers of two are moves: each of them as factor and as divisor of Inputs.
func TestPowersOfTwo(t *testing.T) {
	const w = 16
	s := newSheet(t)
	in := s.input(w)
	for i := range w {
		s.call(mul, in, s.constant(w, power(i)))
		s.call(mul, s.constant(w, power(i)), in)
		s.call(divide, in, s.constant(w, power(i)))
		s.call(divide, s.constant(w, power(i)), in)
	}
	for _, x := range edges(w) {
		s.holds(x)
	}
	s.holdsSome(rand.New(rand.NewSource(16)), 30)
}

// Rows that are longer than a word, some of them far.
func TestLongRows(t *testing.T) {
	for _, w := range []int{66, 100, 200} {
		s := newSheet(t)
		a, b := s.input(w), s.input(w)
		s.call(mul, a, b)
		s.call(divide, a, b)
		x, y := power(w/3), near(w, power(2*w/3), -1)
		for _, in := range [][2]*big.Int{
			{x, y}, {y, x}, {greatest(w), x}, {greatest(w), greatest(w)}, {x, number(0)}, {y, number(1)},
			{near(w, y, 7), number(10)}, {power(w - 1), power(w - 1)}, {x, near(w, x, 1)}, {x, near(w, x, -1)},
		} {
			s.holds(in[0], in[1])
		}
		s.holdsSome(rand.New(rand.NewSource(int64(w))), 400/w)
	}
	const w = 1500
	s := newSheet(t)
	for _, o := range both {
		s.call(o, s.constant(w, near(w, power(1400), 12345)), s.constant(w, near(w, power(800), -1)))
	}
	s.holds()
}

// Rows of the same bits: one row twice, its Nots, turned about, and one bit at
// all places.
func TestRowsOfTheSameBits(t *testing.T) {
	for w := 1; w <= 5; w++ {
		s := newSheet(t)
		in := s.input(w)
		var back, one []bit
		for i := range w {
			back = append(back, bit{of: in, place: w - 1 - i})
			one = append(one, bit{of: in})
		}
		from := []*row{in, s.nots(in), s.of(back...), s.nots(s.of(back...)), s.of(one...), s.nots(s.of(one...))}
		for _, o := range both {
			for _, a := range from {
				for _, b := range from {
					s.call(o, a, b)
				}
			}
		}
		s.holdsAll()
	}
	s := newSheet(t)
	in := s.input(64)
	turned := s.nots(in)
	for _, o := range both {
		s.call(o, in, in)
		s.call(o, in, turned)
		s.call(o, turned, in)
	}
	for _, x := range edges(64) {
		s.holds(x)
	}
}

// Rows that overlap in memory go as such that do not.
func TestRowsThatOverlap(t *testing.T) {
	for _, o := range both {
		g, all := inputs(7)
		was := slices.Clone(all)
		told := o.ask(g, all[:5], all[2:])
		other, _ := inputs(7)
		apart := o.ask(other, slices.Clone(was[:5]), slices.Clone(was[2:]))
		if !slices.Equal(all, was) || !same(told, apart) || len(told[0]) != 5 {
			t.Errorf("%s of rows that overlap told %v, and apart %v", o.name, told, apart)
		}
	}
}

// Rows that other calls told, some deep.
func TestDeepRows(t *testing.T) {
	s := newSheet(t)
	a, b := s.input(6), s.input(6)
	for range 12 {
		c := s.call(mul, a, b)[0]
		d := s.call(divide, a, s.call(others[0], b, c)[0])
		a = s.call(others[1], d[0], b)[0]
		b = s.call(divide, s.nots(c), d[1])[1]
		b = s.call(others[3], b, s.call(mul, c, c)[0])[0]
	}
	for _, x := range edges(6) {
		for _, y := range edges(6) {
			s.holds(x, y)
		}
	}
	s.holdsSome(rand.New(rand.NewSource(3)), 100)
}

// What always holds of products and quotients (1.3, too), a solver finds no
// exception to.
func TestSolverFindsNoException(t *testing.T) {
	const w = 4
	g, all := inputs(3 * w)
	a, b, c := all[:w], all[w:2*w], all[2*w:]
	q, r := Divide(g, a, b)
	nought := arith.Const(g, w, 0)
	byNought := arith.Equal(g, b, nought)
	for name, is := range map[string]int{
		"a * b is b * a":                    arith.Equal(g, Mul(g, a, b), Mul(g, b, a)),
		"a * (b + c) is a * b + a * c":      arith.Equal(g, Mul(g, a, arith.Add(g, b, c)), arith.Add(g, Mul(g, a, b), Mul(g, a, c))),
		"a * 1 is a":                        arith.Equal(g, Mul(g, a, arith.Const(g, w, 1)), a),
		"a * -1 is 0 - a":                   arith.Equal(g, Mul(g, a, arith.Const(g, w, 15)), arith.Neg(g, a)),
		"q * b + r is a":                    arith.Equal(g, arith.Add(g, Mul(g, q, b), r), a),
		"r is less than b, if it is not 0":  g.Or(byNought, arith.Less(g, r, b)),
		"q is no greater than a, if not":    g.Or(byNought, lit.Not(arith.Less(g, a, q))),
		"by 0 all bits are set, and r is a": g.Or(lit.Not(byNought), g.And(arith.Equal(g, q, arith.Const(g, w, 15)), arith.Equal(g, r, a))),
	} {
		res, e := sat.Solve(g.Vars(), append(g.Clauses(), []int{lit.Not(is)}), 200000)
		if e != api.OK || res.Status != api.Unsat {
			t.Errorf("%s: %d, %d", name, res.Status, e)
		}
	}
}

// A solver finds what makes a product, or has a quotient.
func TestSolverFindsFactors(t *testing.T) {
	const w = 8
	g, all := inputs(2 * w)
	a, b := all[:w], all[w:]
	q, r := Divide(g, a, b)
	for name, l := range map[string][]int{
		"a * b is 143, both less than 16": {
			arith.Equal(g, Mul(g, a, b), arith.Const(g, w, 143)), arith.Less(g, a, arith.Const(g, w, 16)), arith.Less(g, b, arith.Const(g, w, 16))},
		"a by b is 5, and the rest 41": {arith.Equal(g, q, arith.Const(g, w, 5)), arith.Equal(g, r, arith.Const(g, w, 41))},
	} {
		clauses := slices.Clone(g.Clauses())
		for _, x := range l {
			clauses = append(clauses, []int{x})
		}
		res, e := sat.Solve(g.Vars(), clauses, 100000)
		if e != api.OK || res.Status != api.Sat {
			t.Fatalf("%s: %d, %d", name, res.Status, e)
		}
		x, y := model(a, res.Model), model(b, res.Model)
		if name[2] == '*' && x*y != 143 || name[2] == 'b' && (y == 0 || x/y != 5 || x%y != 41) {
			t.Errorf("%s: %d and %d", name, x, y)
		}
	}
}

// model is the word of a row in a solver's truths.
func model(row []int, m []bool) int {
	x := 0
	for i, l := range row {
		if lit.Holds(l, m) {
			x |= 1 << i
		}
	}
	return x
}

// None.

// inputs are gates with so many Inputs.
func inputs(n int) (*gate.Gates, []int) {
	g := gate.New()
	row := []int{}
	for range n {
		row = append(row, g.Input())
	}
	return g, row
}

func same(a, b [][]int) bool {
	return slices.EqualFunc(a, b, func(c, d []int) bool { return slices.Equal(c, d) })
}

// isNone asks that all rows that o tells of a and b are none, and that nothing
// has changed: neither the rows, nor g.
func isNone(t *testing.T, o *operation, g *gate.Gates, a, b []int) {
	t.Helper()
	wasA, wasB, vars, clauses := slices.Clone(a), slices.Clone(b), g.Vars(), len(g.Clauses())
	for i, row := range o.ask(g, a, b) {
		if len(row) != 0 {
			t.Fatalf("%s of %v and %v told the row %v (%d)", o.name, wasA, wasB, row, i)
		}
	}
	if !slices.Equal(a, wasA) || !slices.Equal(b, wasB) {
		t.Fatalf("%s left %v and %v of %v and %v", o.name, a, b, wasA, wasB)
	}
	if g.Vars() != vars || len(g.Clauses()) != clauses {
		t.Fatalf("%s of %v and %v told none, and yet made gates", o.name, a, b)
	}
}

func TestUnlikeLengths(t *testing.T) {
	lengths := []int{0, 1, 2, 3, 4, 8, 9, 63, 64, 65, 66, 128, 200}
	for _, o := range both {
		for _, n := range lengths {
			for _, m := range lengths {
				if n == m {
					continue
				}
				g, all := inputs(n + m)
				isNone(t, o, g, all[:n], all[n:])
				isNone(t, o, g, all[:n], all[:m])
				isNone(t, o, g, make([]int, n), make([]int, m))
				isNone(t, o, g, slices.Repeat([]int{1}, n), all[:m])
			}
		}
	}
}

func TestEmptyRows(t *testing.T) {
	g, all := inputs(8)
	empty := [][]int{nil, {}, make([]int, 0, 8), all[:0]}
	for _, o := range both {
		for _, a := range empty {
			for _, b := range append(slices.Clone(empty), all[:1], all, []int{-1}, []int{0}, []int{math.MaxInt}) {
				isNone(t, o, g, a, b)
				isNone(t, o, g, b, a)
			}
		}
	}
}

// Numbers below 0, and literals of variables that are not there, at each place
// of either row, of both, and at all places.
func TestWrongLiterals(t *testing.T) {
	for _, o := range both {
		for _, n := range []int{1, 2, 3, 8, 64, 65} {
			g, all := inputs(2 * n)
			a, b := all[:n], all[n:]
			right := [][]int{a, b, slices.Repeat([]int{0}, n), slices.Repeat([]int{1}, n)}
			for _, x := range append(beyond(g), below...) {
				for place := range n {
					wrong := slices.Clone(a)
					wrong[place] = x
					isNone(t, o, g, wrong, wrong)
					for _, other := range right {
						isNone(t, o, g, wrong, other)
						isNone(t, o, g, other, wrong)
					}
				}
				wrong := slices.Repeat([]int{x}, n)
				isNone(t, o, g, wrong, wrong)
				isNone(t, o, g, wrong, b)
				isNone(t, o, g, a, wrong)
			}
		}
	}
}

// A wrong literal among constants, which say by themselves what comes of them.
func TestWrongLiteralsAmongConstants(t *testing.T) {
	for _, o := range both {
		for _, n := range []int{1, 2, 4} {
			g, all := inputs(n)
			for _, among := range []int{0, 1} {
				for _, x := range append(beyond(g), below...) {
					for place := range n {
						wrong := slices.Repeat([]int{among}, n)
						wrong[place] = x
						for _, other := range [][]int{all, slices.Repeat([]int{0}, n), slices.Repeat([]int{1}, n), wrong} {
							isNone(t, o, g, wrong, other)
							isNone(t, o, g, other, wrong)
						}
					}
				}
			}
		}
	}
}

// A wrong literal and unlike lengths at once: also behind the shorter's end.
func TestWrongLiteralsOfUnlikeLengths(t *testing.T) {
	for _, o := range both {
		g, all := inputs(4)
		for _, x := range append(beyond(g), below...) {
			for place := range 4 {
				wrong := slices.Clone(all)
				wrong[place] = x
				for n := range 4 {
					isNone(t, o, g, wrong, all[:n])
					isNone(t, o, g, all[:n], wrong)
				}
			}
		}
	}
}

// The literal of a variable that comes next is right as soon as it is there.
func TestNextVariable(t *testing.T) {
	for _, o := range both {
		for _, place := range []int{0, 2} {
			g, all := inputs(3)
			wrong := slices.Clone(all)
			wrong[place] = 2*g.Vars() + 1
			isNone(t, o, g, wrong, all)
			g.Input()
			if told := o.ask(g, wrong, all); len(told[0]) != 3 {
				t.Errorf("%s of %v and %v told %v", o.name, wrong, all, told)
			}
		}
	}
}

func TestNilGates(t *testing.T) {
	rows := [][]int{nil, {}, {0}, {1}, {-1}, {0, 1}, {2, 3}, {math.MaxInt}, {math.MinInt, 0}, {0, 2, 4, 6}, make([]int, 64), make([]int, 65)}
	for _, o := range both {
		for _, a := range rows {
			for _, b := range rows {
				isNone(t, o, nil, a, b)
			}
		}
	}
}

// Rules that hold everywhere.

// What was told is memory of its own: who writes to it changes neither what
// was handed in, nor the other row, nor the gates.
func TestRowsAreNew(t *testing.T) {
	for _, o := range both {
		for _, w := range []int{1, 2, 8, 64} {
			g, all := inputs(2 * w)
			yes, no := slices.Repeat([]int{0}, w), slices.Repeat([]int{1}, w)
			for _, rows := range [][2][]int{{all[:w], all[w:]}, {all[:w], yes}, {all[:w], no}, {no, all[:w]}, {yes, yes}, {all[:w], all[:w]}} {
				a, b := slices.Clone(rows[0]), slices.Clone(rows[1])
				told := o.ask(g, rows[0], rows[1])
				last := slices.Clone(told[len(told)-1])
				if len(told) == 1 {
					last = nil
				}
				for i := range told[0] {
					told[0][i] = -9
				}
				told[0] = append(told[0], -9, -9)
				if len(told) > 1 && !slices.Equal(told[1], last) {
					t.Fatalf("%s told rows that share memory", o.name)
				}
				for _, row := range told {
					for i := range row {
						row[i] = -9
					}
				}
				if !slices.Equal(rows[0], a) || !slices.Equal(rows[1], b) {
					t.Fatalf("%s shares memory with what it was handed", o.name)
				}
				for _, c := range g.Clauses() {
					if slices.Contains(c, -9) {
						t.Fatalf("%s shares memory with the clauses", o.name)
					}
				}
			}
		}
	}
}

// mixed are the widths of rows that the tests below grow.
var mixed = []int{1, 2, 5, 8, 16, 33}

func grown(t *testing.T, seed int64, calls int) *sheet {
	s := newSheet(t)
	s.grow(rand.New(rand.NewSource(seed)), calls, mixed, 80)
	return s
}

func asksSame(t *testing.T, a, b *sheet) {
	t.Helper()
	if !slices.Equal(a.literals(), b.literals()) || a.g.Vars() != b.g.Vars() || !same(a.g.Clauses(), b.g.Clauses()) {
		t.Error("the same calls told others")
	}
}

// The same calls in the same order tell the same, also with others between,
// on other gates.
func TestSameCallsTellTheSame(t *testing.T) {
	for seed := range int64(10) {
		a, b, c := newSheet(t), newSheet(t), newSheet(t)
		one, two, three := rand.New(rand.NewSource(seed)), rand.New(rand.NewSource(seed)), rand.New(rand.NewSource(seed+50))
		for range 20 {
			a.grow(one, 1, mixed, 80)
			c.grow(three, 1, mixed, 80)
			b.grow(two, 1, mixed, 80)
		}
		asksSame(t, a, b)
	}
}

// What is asked for behind wrong calls is as it would be without them.
func TestWrongCallsLeaveNothing(t *testing.T) {
	a, b := newSheet(t), newSheet(t)
	one, two := rand.New(rand.NewSource(4)), rand.New(rand.NewSource(4))
	for i := range 40 {
		a.grow(one, 1, mixed, 80)
		b.grow(two, 1, mixed, 80)
		all := b.literals()
		for _, o := range both {
			isNone(t, o, b.g, all[:1], []int{below[i%len(below)]})
			isNone(t, o, b.g, []int{all[0], math.MaxInt}, []int{all[0], all[0]})
			isNone(t, o, b.g, all, all[1:])
		}
	}
	asksSame(t, a, b)
}

// Calls at the same time, on gates of their own, do not touch one another.
func TestAtTheSameTime(t *testing.T) {
	sheets := make([]*sheet, 8)
	var all sync.WaitGroup
	for i := range sheets {
		all.Go(func() { sheets[i] = grown(t, int64(i/2), 30) })
	}
	all.Wait()
	for i, s := range sheets {
		asksSame(t, s, grown(t, int64(i/2), 30))
		s.holdsSome(rand.New(rand.NewSource(1)), 3)
	}
}

// The same rows may be handed in at the same time, as nobody writes to them.
func TestSameRowsAtTheSameTime(t *testing.T) {
	_, rows := inputs(16)
	told := make([][][]int, 6)
	var all sync.WaitGroup
	for i := range told {
		all.Go(func() {
			g, _ := inputs(16)
			for _, o := range both {
				told[i] = append(told[i], o.ask(g, rows[:8], rows[8:])...)
			}
		})
	}
	all.Wait()
	for _, l := range told {
		if len(l) != 3 || !same(l, told[0]) {
			t.Errorf("the same calls told %v and %v", told[0], l)
		}
	}
}
