package arith

import (
	"math"
	"math/big"
	"math/rand"
	"slices"
	"strconv"
	"sync"
	"testing"

	"breakwater/api"
	"breakwater/gate"
	"breakwater/lit"
	"breakwater/sat"
	"breakwater/unit"
)

// below are numbers below 0, out to the least int.
var below = []int{
	-1, -2, -3, -4, -5, -64, -65, -100, -2 * api.MaxVars, math.MinInt32 - 1, math.MinInt32, math.MinInt / 2, math.MinInt + 2, math.MinInt + 1, math.MinInt,
}

// beyond are numbers that are literals of variables that are not there, out to
// the greatest int.
func beyond(g *gate.Gates) []int {
	n := 2 * g.Vars()
	return []int{
		n, n + 1, n + 2, n + 3, n + 100, 2*n + 100, math.MaxInt32, 1 << 32, 1<<32 + 2, 1<<33 + 3,
		math.MaxInt / 2, math.MaxInt/2 + 1, math.MaxInt - 2, math.MaxInt - 1, math.MaxInt,
	}
}

// edges are words of 64 bits about which sums and comparisons turn.
var edges = []uint64{
	0, 1, 2, 3, 255, 256, 1<<31 - 1, 1 << 31, 1<<32 - 1, 1 << 32, 1<<32 + 1, 0x5555555555555555, 0xaaaaaaaaaaaaaaaa,
	1<<62 - 1, 1 << 62, 1<<63 - 2, 1<<63 - 1, 1 << 63, 1<<63 + 1, math.MaxUint64 - 1, math.MaxUint64,
}

// held are the gates' clauses, as they were: a copy.
func held(g *gate.Gates) [][]int {
	var all [][]int
	for _, c := range g.Clauses() {
		all = append(all, slices.Clone(c))
	}
	return all
}

func same(a, b [][]int) bool {
	return slices.EqualFunc(a, b, func(c, d []int) bool { return slices.Equal(c, d) })
}

// asItWas tells a function that asks that g is as it was.
func asItWas(t *testing.T, g *gate.Gates) func(what ...any) {
	t.Helper()
	vars, clauses := g.Vars(), held(g)
	return func(what ...any) {
		t.Helper()
		if g.Vars() != vars || !same(g.Clauses(), clauses) {
			t.Fatalf("%v: %d variables and %d clauses are %d and %d", what, vars, len(clauses), g.Vars(), len(g.Clauses()))
		}
	}
}

// Const.

func TestConst(t *testing.T) {
	words := append([]uint64{0xfedcba9876543210, 0x0123456789abcdef}, edges...)
	for w := 1; w <= 64; w++ {
		g := gate.New()
		g.Input()
		is := asItWas(t, g)
		for _, x := range words {
			row := Const(g, w, x)
			if len(row) != w {
				t.Fatalf("Const(%d, %d) = %v", w, x, row)
			}
			known, ok := unit.Close(g.Clauses(), nil)
			if !ok {
				t.Fatal("Close is false")
			}
			for i, l := range row {
				if x>>i&1 == 0 {
					l = lit.Not(l)
				}
				if !has(known, l) || has(known, lit.Not(l)) {
					t.Fatalf("Const(%d, %d) = %v: bit %d is not the word's", w, x, row, i)
				}
			}
		}
		if row := Const(g, w, 5); !slices.Equal(row, Const(g, w, 5)) {
			t.Errorf("Const(%d, 5) is another one the second time", w)
		}
		// Constants want no variable, though which literals come is free.
		is("Const", w)
	}
}

// Bits above the lowest w play no part.
func TestConstIsCut(t *testing.T) {
	r := newRun(t)
	for w := 1; w < 64; w++ {
		low := uint64(1)<<w - 1
		for _, x := range []uint64{0, 5, 0x123456789abcdef0, math.MaxUint64} {
			a, b := r.constant(w, x&low), r.constant(w, x|^low)
			for i := range a {
				if r.bits[a[i].at] != r.bits[b[i].at] {
					t.Fatalf("Const(%d, %d) is not Const of %d", w, x&low, x|^low)
				}
			}
		}
	}
	r.followsAll()
}

func TestConstOfNoWidth(t *testing.T) {
	g := gate.New()
	is := asItWas(t, g)
	widths := append([]int{
		0, 65, 66, 100, 127, 128, 129, 192, 256, 320, 1000, math.MaxInt32, 1 << 32, 1<<32 + 1, 1<<32 + 64,
		math.MaxInt / 2, math.MaxInt - 63, math.MaxInt - 1, math.MaxInt,
	}, below...)
	for _, w := range widths {
		for _, x := range edges {
			if row := Const(g, w, x); len(row) != 0 {
				t.Errorf("Const(%d, %d) = %v", w, x, row)
			}
		}
	}
	is("Const of no width")
}

// Ordinary rows.

func TestExample(t *testing.T) {
	g := gate.New()
	row := Add(g, Const(g, 8, 1), Const(g, 8, 255))
	known, ok := unit.Close(g.Clauses(), nil)
	if !ok || len(row) != 8 {
		t.Fatalf("Add of 1 and 255 = %v, %v", row, ok)
	}
	for _, l := range row {
		if !has(known, lit.Not(l)) || has(known, l) {
			t.Errorf("Add of 1 and 255 = %v, which is not 0", row)
		}
	}
}

// What calls say, in a table that is written out, of words of 4 bits.
func TestTable(t *testing.T) {
	for _, c := range []struct {
		kind       *kind
		a, b, want uint64
	}{
		{add, 3, 4, 7}, {add, 9, 9, 2}, {add, 15, 1, 0}, {add, 15, 15, 14}, {add, 0, 0, 0},
		{sub, 7, 4, 3}, {sub, 4, 7, 13}, {sub, 0, 1, 15}, {sub, 5, 5, 0}, {sub, 0, 8, 8},
		{neg, 1, 0, 15}, {neg, 0, 0, 0}, {neg, 8, 0, 8}, {neg, 15, 0, 1}, {neg, 7, 0, 9},
		{equal, 5, 5, 1}, {equal, 5, 4, 0}, {equal, 0, 8, 0}, {equal, 15, 15, 1},
		{lesser, 3, 4, 1}, {lesser, 4, 3, 0}, {lesser, 4, 4, 0}, {lesser, 7, 8, 1}, {lesser, 8, 7, 0}, {lesser, 0, 15, 1},
		{sless, 3, 4, 1}, {sless, 4, 3, 0}, {sless, 4, 4, 0}, {sless, 7, 8, 0}, {sless, 8, 7, 1}, {sless, 15, 0, 1}, {sless, 8, 15, 1},
	} {
		g := gate.New()
		var free []int
		for range 8 {
			free = append(free, g.Input())
		}
		told := c.kind.ask(g, 0, free[:4], free[4:])
		set := slices.Clone(free)
		for i := range set {
			if (c.a|c.b<<4)>>i&1 == 0 {
				set[i] = lit.Not(set[i])
			}
		}
		known, ok := unit.Close(g.Clauses(), set)
		if !ok {
			t.Fatalf("%s of %d and %d: Close is false", c.kind.name, c.a, c.b)
		}
		for i, l := range told {
			if c.want>>i&1 == 0 {
				l = lit.Not(l)
			}
			if !has(known, l) || has(known, lit.Not(l)) {
				t.Errorf("%s of %d and %d is not %d", c.kind.name, c.a, c.b, c.want)
			}
		}
	}
}

// Of small widths all words, in each call alone: of inputs, of constants, and
// of both.
func TestAllWords(t *testing.T) {
	for _, k := range kinds {
		t.Run(k.name, func(t *testing.T) {
			for w := 1; w <= 4; w++ {
				r := newRun(t)
				rows := [][]ref{r.input(w), r.input(w)}
				r.call(k, r.input(1)[0], rows[:k.rows]...)
				r.followsAll()
				if r.inputs != 2*w+1 {
					t.Fatal("not all words were tried")
				}
			}
			for w := 1; w <= 3; w++ {
				for x := range uint64(1) << w {
					r := newRun(t)
					in, c := r.input(w), r.input(1)[0]
					known := r.constant(w, x)
					rows := [][]ref{in, known}
					r.call(k, c, rows[:k.rows]...)
					rows = [][]ref{known, in}
					r.call(k, c, rows[:k.rows]...)
					r.followsAll()
				}
			}
		})
	}
}

func TestAllConstants(t *testing.T) {
	for _, k := range kinds {
		t.Run(k.name, func(t *testing.T) {
			for w := 1; w <= 4; w++ {
				r := newRun(t)
				yes := r.constant(1, 1)[0]
				for a := range uint64(1) << w {
					for b := range uint64(1) << w {
						rows := [][]ref{r.constant(w, a), r.constant(w, b)}
						r.call(k, yes, rows[:k.rows]...)
						r.call(k, not(yes), rows[:k.rows]...)
					}
				}
				r.followsAll()
			}
		})
	}
}

// Bit by bit an input, a constant of either truth, or the same as the other
// row has there, or its Not.
func TestAllMixes(t *testing.T) {
	for _, k := range kinds {
		t.Run(k.name, func(t *testing.T) {
			const w = 2
			for mix := range 1 << (3 * w) {
				r := newRun(t)
				in, c := r.input(2*w), r.input(1)[0]
				yes := r.constant(1, 1)[0]
				rows := [][]ref{slices.Clone(in[:w]), slices.Clone(in[w:])}
				for i := range w {
					switch mix >> (3 * i) & 7 {
					case 0:
						rows[0][i] = yes
					case 1:
						rows[0][i] = not(yes)
					case 2:
						rows[1][i] = yes
					case 3:
						rows[1][i] = not(yes)
					case 4:
						rows[1][i] = rows[0][i]
					case 5:
						rows[1][i] = not(rows[0][i])
					case 6:
						rows[0][i] = c
					case 7:
						rows[0][i], rows[1][i] = not(c), c
					}
				}
				r.call(k, c, rows[:k.rows]...)
				slices.Reverse(rows)
				r.call(k, not(c), rows[:k.rows]...)
				r.followsAll()
			}
		})
	}
}

// At 64 bits: sums that pass 2^64, differences below 0, the highest bit alone.
func TestWidest(t *testing.T) {
	for _, k := range kinds {
		t.Run(k.name, func(t *testing.T) {
			r := newRun(t)
			rows := [][]ref{r.input(64), r.input(64)}
			c := r.input(1)[0]
			r.call(k, c, rows[:k.rows]...)
			r.call(k, not(c), rows[:k.rows]...)
			for _, a := range edges {
				for _, b := range edges {
					r.followsWords(64, a, b)
					r.followsWords(64, a, b, 1)
				}
			}
		})
	}
}

// The same with one row of constants, the first or the second, or both.
func TestWidestConstants(t *testing.T) {
	for _, k := range kinds {
		t.Run(k.name, func(t *testing.T) {
			r := newRun(t)
			in := r.input(64)
			c := r.constant(1, 1)[0]
			for _, x := range edges {
				known := r.constant(64, x)
				for _, rows := range [][][]ref{{in, known}, {known, in}, {known, r.constant(64, x+1)}, {known, known}} {
					r.call(k, c, rows[:k.rows]...)
					r.call(k, not(c), rows[:k.rows]...)
				}
			}
			for _, a := range edges {
				r.followsWords(64, a)
			}
		})
	}
}

// At all widths, about where sums pass the width and the highest bit counts.
func TestAllWidths(t *testing.T) {
	for w := 1; w <= 64; w++ {
		r := newRun(t)
		rows := [][]ref{r.input(w), r.input(w)}
		c := r.input(1)[0]
		for _, k := range kinds {
			r.call(k, c, rows[:k.rows]...)
		}
		top := uint64(1) << (w - 1)
		words := []uint64{0, 1, top - 1, top, top + 1, 2*top - 1, 2*top - 2}
		for _, a := range words {
			for _, b := range words {
				r.followsWords(w, a, b)
				r.followsWords(w, a, b, 1<<w-1)
			}
		}
	}
}

// Of more than 64 bits likewise, all bits inputs, or some, or none.
func TestWiderThanWords(t *testing.T) {
	for _, w := range []int{65, 66, 128, 200} {
		one := big.NewInt(1)
		top := new(big.Int).Lsh(one, uint(w-1))
		all := new(big.Int).Sub(new(big.Int).Lsh(top, 1), one)
		words := []*big.Int{new(big.Int), one, new(big.Int).SetUint64(math.MaxUint64), new(big.Int).Lsh(one, 64), new(big.Int).Sub(top, one), top, all}
		r := newRun(t)
		ins := [][]ref{r.input(w), r.input(w)}
		c := r.input(1)[0]
		for _, k := range kinds {
			r.call(k, c, ins[:k.rows]...)
			for i, x := range words {
				known := r.long(w, x)
				for _, rows := range [][][]ref{{ins[0], known}, {known, ins[1]}, {known, r.long(w, words[len(words)-1-i])}} {
					r.call(k, not(c), rows[:k.rows]...)
				}
			}
		}
		for _, a := range words {
			for _, b := range words {
				var in []bool
				for i := range w {
					in = append(in, a.Bit(i) == 1)
				}
				for i := range w {
					in = append(in, b.Bit(i) == 1)
				}
				r.follows(append(in, a.Bit(0) == b.Bit(0)))
			}
		}
	}
}

// One row twice, its Nots, it turned about, and one bit at all places.
func TestRowsOfTheSameBits(t *testing.T) {
	for _, k := range kinds {
		t.Run(k.name, func(t *testing.T) {
			for w := 1; w <= 5; w++ {
				r := newRun(t)
				in := r.input(w)
				back := slices.Clone(in)
				slices.Reverse(back)
				one := slices.Repeat([]ref{in[0]}, w)
				from := [][]ref{in, nots(in), back, nots(back), one, nots(one), slices.Repeat([]ref{in[w-1]}, w)}
				for _, a := range from {
					for _, b := range from {
						rows := [][]ref{a, b}
						r.call(k, in[w/2], rows[:k.rows]...)
						r.call(k, not(in[w-1]), rows[:k.rows]...)
					}
				}
				r.followsAll()
			}
		})
	}
}

func TestRowsOfTheSameBitsAtTheWidest(t *testing.T) {
	r := newRun(t)
	in := r.input(64)
	for _, k := range kinds {
		for _, rows := range [][][]ref{{in, in}, {in, nots(in)}, {nots(in), in}, {nots(in), nots(in)}} {
			r.call(k, in[63], rows[:k.rows]...)
		}
	}
	for _, x := range edges {
		r.followsWords(64, x)
	}
}

// The same row twice in memory, too: two parts of one list that overlap.
func TestRowsThatOverlap(t *testing.T) {
	for _, k := range kinds {
		g := gate.New()
		var all []int
		for range 6 {
			all = append(all, g.Input())
		}
		was := slices.Clone(all)
		told := k.ask(g, all[2], all[:4], all[2:])
		if k.none(told) || !slices.Equal(all, was) {
			t.Errorf("%s of rows that overlap told %v and left %v of %v", k.name, told, all, was)
		}
		other := gate.New()
		for range 6 {
			other.Input()
		}
		if again := k.ask(other, was[2], slices.Clone(was[:4]), slices.Clone(was[2:])); !slices.Equal(told, again) {
			t.Errorf("%s of rows that overlap told %v, and apart %v", k.name, told, again)
		}
	}
}

// Rows that other calls told, many deep.
func TestDeepRows(t *testing.T) {
	for _, k := range kinds {
		t.Run(k.name, func(t *testing.T) {
			r := newRun(t)
			in := r.input(8)
			step := r.call(add, in[0], in, r.constant(8, 3))
			c := in[1]
			row := in
			for i := range 200 {
				rows := [][]ref{row, step}
				if i%3 == 0 {
					slices.Reverse(rows)
				}
				told := r.call(k, c, rows[:k.rows]...)
				if !k.long {
					// A literal comes into the row from below.
					told = append(told, row[:7]...)
				}
				c, row = row[i%8], told
			}
			for x := uint64(0); x < 256; x += 5 {
				r.followsWords(8, x)
			}
		})
	}
}

func TestDeepRowsOfAllKinds(t *testing.T) {
	r := newRun(t)
	a, b := r.input(16), r.input(16)
	for range 60 {
		a = r.call(add, ref{}, a, b)
		b = r.call(sub, ref{}, b, r.call(neg, ref{}, a))
		c := r.call(sless, ref{}, a, b)[0]
		d := r.call(lesser, ref{}, nots(b), a)[0]
		b = r.call(ite, c, b, r.call(add, ref{}, a, a))
		a = r.call(ite, not(d), a, nots(b))
		r.call(equal, ref{}, a, b)
	}
	rnd := rand.New(rand.NewSource(4))
	for range 60 {
		r.followsWords(16, rnd.Uint64(), rnd.Uint64())
	}
	for _, x := range []uint64{0, 1, 1<<15 - 1, 1 << 15, 1<<16 - 1} {
		for _, y := range []uint64{0, 1, 1<<15 - 1, 1 << 15, 1<<16 - 1} {
			r.followsWords(16, x, y)
		}
	}
}

// Ite with each condition: an input, its Not, True and its Not, and what
// another call told; the condition may be a bit of the rows.
func TestIteOfAllConditions(t *testing.T) {
	for w := 1; w <= 3; w++ {
		r := newRun(t)
		a, b := r.input(w), r.input(w)
		free, yes := r.input(1)[0], r.constant(1, 1)[0]
		for _, c := range []ref{free, yes, a[0], a[w-1], b[0], b[w-1], r.call(lesser, ref{}, a, b)[0], r.call(equal, ref{}, a, b)[0]} {
			for _, f := range []ref{c, not(c)} {
				r.call(ite, f, a, b)
				r.call(ite, f, b, a)
				r.call(ite, f, a, a)
				r.call(ite, f, nots(a), a)
				r.call(ite, f, r.constant(w, 5), b)
				r.call(ite, f, a, r.constant(w, 2))
				r.call(ite, f, r.constant(w, 5), r.constant(w, 3))
			}
		}
		r.followsAll()
	}
}

// No bit of a sum is known before the bits are from which it comes: the
// answers are of the inputs, not of what happens to be asked.
func TestInputsAreFree(t *testing.T) {
	r := newRun(t)
	rows := [][]ref{r.input(3), r.input(3)}
	for _, k := range kinds {
		r.call(k, rows[0][0], rows[:k.rows]...)
	}
	known, ok := unit.Close(r.g.Clauses(), nil)
	if !ok {
		t.Fatal("Close is false")
	}
	for _, row := range rows {
		for _, x := range r.all(row) {
			if has(known, x) || has(known, lit.Not(x)) {
				t.Errorf("%d is known, though it is an Input", x)
			}
		}
	}
}

// What always holds of sums and comparisons, a solver finds no exception to.
func TestSolverFindsNoException(t *testing.T) {
	const w = 5
	g := gate.New()
	row := func() []int {
		var l []int
		for range w {
			l = append(l, g.Input())
		}
		return l
	}
	a, b, c := row(), row(), row()
	zero := Const(g, w, 0)
	for name, holds := range map[string]int{
		"a + b is b + a":               Equal(g, Add(g, a, b), Add(g, b, a)),
		"(a + b) + c is a + (b + c)":   Equal(g, Add(g, Add(g, a, b), c), Add(g, a, Add(g, b, c))),
		"a - b is a + (0 - b)":         Equal(g, Sub(g, a, b), Add(g, a, Neg(g, b))),
		"a - b + b is a":               Equal(g, Add(g, Sub(g, a, b), b), a),
		"a - a is 0":                   Equal(g, Sub(g, a, a), zero),
		"one of <, =, > holds":         g.Or(Equal(g, a, b), g.Or(Less(g, a, b), Less(g, b, a))),
		"not both of <, >":             lit.Not(g.And(Less(g, a, b), Less(g, b, a))),
		"one of <, =, > holds, signed": g.Or(Equal(g, a, b), g.Or(Sless(g, a, b), Sless(g, b, a))),
		"< goes on":                    g.Or(lit.Not(g.And(Less(g, a, b), Less(g, b, c))), Less(g, a, c)),
		"signed < goes on":             g.Or(lit.Not(g.And(Sless(g, a, b), Sless(g, b, c))), Sless(g, a, c)),
	} {
		r, e := sat.Solve(g.Vars(), append(g.Clauses(), []int{lit.Not(holds)}), 200000)
		if e != api.OK || r.Status != api.Unsat {
			t.Errorf("%s: %d, %d", name, r.Status, e)
		}
	}
	nine := Equal(g, Add(g, a, b), Const(g, w, 9))
	r, e := sat.Solve(g.Vars(), append(g.Clauses(), []int{nine}), 10000)
	if e != api.OK || r.Status != api.Sat {
		t.Errorf("a + b is 9 nowhere: %d, %d", r.Status, e)
	}
}

// None, or -1.

// ordinary are gates with rows of these lengths, of inputs, and a literal.
func ordinary(lengths ...int) (*gate.Gates, int, [][]int) {
	g := gate.New()
	c := g.Input()
	var rows [][]int
	for _, n := range lengths {
		row := []int{}
		for i := range n {
			x := g.Input()
			if i%3 == 1 {
				x = lit.Not(x)
			}
			row = append(row, x)
		}
		rows = append(rows, row)
	}
	return g, c, rows
}

// asksNone asks that k of these tells none, or -1, with nothing changed.
func asksNone(t *testing.T, g *gate.Gates, k *kind, c int, a, b []int) {
	t.Helper()
	is := asItWas(t, g)
	wasA, wasB := slices.Clone(a), slices.Clone(b)
	if told := k.ask(g, c, a, b); !k.none(told) {
		t.Fatalf("%s of %d, %v and %v told %v", k.name, c, wasA, wasB, told)
	}
	if !slices.Equal(a, wasA) || !slices.Equal(b, wasB) {
		t.Fatalf("%s changed %v and %v to %v and %v", k.name, wasA, wasB, a, b)
	}
	is(k.name, c, a, b)
}

func TestUnlikeLengths(t *testing.T) {
	lengths := []int{0, 1, 2, 3, 4, 7, 8, 9, 16, 63, 64, 65, 66, 128, 200}
	for _, k := range kinds {
		if k.rows != 2 {
			continue
		}
		for _, n := range lengths {
			for _, m := range lengths {
				if n == m {
					continue
				}
				g, c, rows := ordinary(n, m)
				asksNone(t, g, k, c, rows[0], rows[1])
				// The longer one has the shorter one's bits, and more.
				short, long := min(n, m), max(n, m)
				g, c, rows = ordinary(long)
				asksNone(t, g, k, c, rows[0], rows[0][:short])
				asksNone(t, g, k, c, rows[0][:short], rows[0])
				asksNone(t, g, k, g.True(), Const(g, min(max(n, 1), 64), 0), rows[0][:0])
			}
		}
	}
}

func TestEmptyRows(t *testing.T) {
	empty := [][]int{nil, {}, make([]int, 0, 8)}
	for _, k := range kinds {
		g, c, rows := ordinary(1, 8)
		for _, a := range empty {
			for _, b := range append(slices.Clone(empty), rows...) {
				for _, cond := range append([]int{c, g.True(), lit.Not(g.True())}, below...) {
					asksNone(t, g, k, cond, a, b)
					if k.rows == 2 {
						asksNone(t, g, k, cond, b, a)
					}
				}
			}
		}
	}
}

// A literal below 0 at each place of either row, or of both.
func TestLiteralsBelow(t *testing.T) { wrongLiterals(t, func(*gate.Gates) []int { return below }) }

// A literal of a variable that is not there is one of no gate: such a row is
// none either.
func TestLiteralsBeyond(t *testing.T) { wrongLiterals(t, beyond) }

func wrongLiterals(t *testing.T, numbers func(g *gate.Gates) []int) {
	for _, k := range kinds {
		for _, n := range []int{1, 2, 3, 8, 64, 65} {
			g, c, rows := ordinary(n, n)
			a, b := rows[0], rows[1]
			for _, x := range numbers(g) {
				for place := range n {
					wrong := slices.Clone(a)
					wrong[place] = x
					asksNone(t, g, k, c, wrong, b)
					asksNone(t, g, k, g.True(), wrong, wrong)
					if k.rows == 2 {
						asksNone(t, g, k, c, b, wrong)
						asksNone(t, g, k, lit.Not(g.True()), a, wrong)
					}
				}
				all := slices.Repeat([]int{x}, n)
				asksNone(t, g, k, c, all, all)
				asksNone(t, g, k, x, all, all)
			}
		}
	}
}

// Beside rows that say by themselves what holds: of constants, or the same.
func TestWrongLiteralsBesideConstants(t *testing.T) {
	for _, k := range kinds {
		for _, w := range []int{1, 2, 5} {
			g, c, rows := ordinary(w)
			for _, right := range [][]int{Const(g, w, 0), Const(g, w, math.MaxUint64), rows[0]} {
				for _, x := range append(beyond(g), below...) {
					for place := range w {
						wrong := slices.Clone(right)
						wrong[place] = x
						for _, cond := range []int{c, g.True(), lit.Not(g.True())} {
							asksNone(t, g, k, cond, wrong, right)
							asksNone(t, g, k, cond, wrong, slices.Clone(wrong))
							if k.rows == 2 {
								asksNone(t, g, k, cond, right, wrong)
							}
						}
					}
				}
			}
		}
	}
}

// Lengths that are unlike, and a wrong literal, at once: behind the shorter
// row's end, too.
func TestWrongLiteralsOfUnlikeLengths(t *testing.T) {
	for _, k := range kinds {
		if k.rows != 2 {
			continue
		}
		for _, x := range below {
			g, c, rows := ordinary(3, 4)
			for place := range 4 {
				wrong := slices.Clone(rows[1])
				wrong[place] = x
				asksNone(t, g, k, c, rows[0], wrong)
				asksNone(t, g, k, c, wrong, rows[0])
				asksNone(t, g, k, c, nil, wrong)
				asksNone(t, g, k, c, wrong, nil)
			}
		}
	}
}

func TestIteOfWrongCondition(t *testing.T) {
	for _, n := range []int{1, 2, 8, 64, 65} {
		g, _, rows := ordinary(n, n)
		for _, c := range append(beyond(g), below...) {
			asksNone(t, g, ite, c, rows[0], rows[1])
			asksNone(t, g, ite, c, rows[0], rows[0])
			asksNone(t, g, ite, c, rows[0], rows[1][:n-1])
			zero := slices.Repeat([]int{g.True()}, n)
			asksNone(t, g, ite, c, zero, zero)
		}
	}
}

// The variable that comes next is not there till it comes; then it is.
func TestNextVariable(t *testing.T) {
	for _, k := range kinds {
		g, c, rows := ordinary(3, 3)
		for range 5 {
			next := 2*g.Vars() + 1
			wrong := slices.Clone(rows[0])
			wrong[2] = next
			asksNone(t, g, k, c, wrong, rows[1])
			g.Input()
			if told := k.ask(g, c, wrong, rows[1]); k.none(told) {
				t.Fatalf("%s of %v and %v told %v", k.name, wrong, rows[1], told)
			}
		}
	}
}

// What is asked for behind wrong calls is as it would be without them.
func TestWrongCallsLeaveNothing(t *testing.T) {
	a, b := newRun(t), newRun(t)
	one, two := rand.New(rand.NewSource(5)), rand.New(rand.NewSource(5))
	how := growth{widths: []int{1, 2, 3, 8}, inputs: 20, last: 40}
	for i := range 200 {
		a.grow(one, 1, how)
		b.grow(two, 1, how)
		for _, k := range kinds {
			k.ask(b.g, b.bits[0], b.bits[:1], []int{below[i%len(below)]})
			k.ask(b.g, b.bits[0], []int{b.bits[0], math.MaxInt}, []int{b.bits[0], -1})
			k.ask(b.g, b.bits[0], nil, b.bits)
		}
		Const(b.g, -i, 7)
	}
	if !slices.Equal(a.bits, b.bits) || a.g.Vars() != b.g.Vars() || !same(a.g.Clauses(), b.g.Clauses()) {
		t.Error("wrong calls changed what others tell")
	}
}

func TestNilGates(t *testing.T) {
	rows := [][]int{nil, {}, {0}, {1}, {0, 1}, {2, 3}, {0, 1, 2, 3, 4, 5, 6, 7}, make([]int, 64), make([]int, 65)}
	for _, x := range below {
		rows = append(rows, []int{x}, []int{0, x}, []int{x, x})
	}
	rows = append(rows, []int{math.MaxInt}, []int{math.MaxInt - 1, 0})
	for _, k := range kinds {
		for _, a := range rows {
			for _, b := range rows {
				for _, c := range []int{0, 1, 2, -1, math.MinInt, math.MaxInt} {
					wasA, wasB := slices.Clone(a), slices.Clone(b)
					if told := k.ask(nil, c, a, b); !k.none(told) {
						t.Fatalf("%s of nil gates, %d, %v and %v told %v", k.name, c, a, b, told)
					}
					if !slices.Equal(a, wasA) || !slices.Equal(b, wasB) {
						t.Fatalf("%s of nil gates changed %v, %v", k.name, wasA, wasB)
					}
				}
			}
		}
	}
	for _, w := range append([]int{0, 1, 2, 8, 63, 64, 65, math.MaxInt}, below...) {
		if row := Const(nil, w, 5); len(row) != 0 {
			t.Errorf("Const(nil, %d, 5) = %v", w, row)
		}
	}
}

// Rules that hold everywhere.

// What was told is memory of its own: who writes to it changes no row that
// was handed in, and nothing that was or will be told.
func TestRowsAreNew(t *testing.T) {
	for _, k := range kinds {
		if !k.long {
			continue
		}
		for _, w := range []int{1, 3, 64} {
			g, c, rows := ordinary(w, w)
			a, b := rows[0], rows[1]
			wasA, wasB := slices.Clone(a), slices.Clone(b)
			for _, cond := range []int{c, g.True(), lit.Not(g.True())} {
				for _, other := range [][]int{b, a, Const(g, w, 0)} {
					clauses := held(g)
					told := k.ask(g, cond, a, other)
					for i := range told {
						told[i] = -9
					}
					told = append(told, -9)
					if !slices.Equal(a, wasA) || !slices.Equal(b, wasB) || len(told) != w+1 || !same(g.Clauses()[:len(clauses)], clauses) {
						t.Fatalf("%s shares memory with what it was handed", k.name)
					}
					for _, l := range g.Clauses() {
						if slices.Contains(l, -9) {
							t.Fatalf("%s shares memory with the clauses", k.name)
						}
					}
				}
			}
		}
	}
	g := gate.New()
	row := Const(g, 8, 5)
	was := slices.Clone(row)
	for i := range row {
		row[i] = -9
	}
	if again := Const(g, 8, 5); !slices.Equal(again, was) {
		t.Errorf("Const told %v, and then %v", was, again)
	}
}

// The same calls tell the same, also with others on other gates between.
func TestSameCallsTellTheSame(t *testing.T) {
	for seed := range int64(20) {
		a, b, c := newRun(t), newRun(t), newRun(t)
		one, two := rand.New(rand.NewSource(seed)), rand.New(rand.NewSource(seed))
		other := rand.New(rand.NewSource(seed + 100))
		how := growth{widths: []int{1, 2, 5, 8, 64, 70}, inputs: 80, last: 200}
		for range 60 {
			a.grow(one, 1, how)
			c.grow(other, 1, how)
			b.grow(two, 1, how)
		}
		if !slices.Equal(a.bits, b.bits) || !same(a.g.Clauses(), b.g.Clauses()) {
			t.Fatal("the same calls told others")
		}
	}
}

// Two calls at the same time, on gates of their own, do not touch one another.
func TestAtTheSameTime(t *testing.T) {
	const n = 8
	how := growth{widths: []int{1, 2, 8, 64, 65}, inputs: 100, last: 300}
	runs := make([]*run, n)
	var all sync.WaitGroup
	for i := range runs {
		runs[i] = newRun(t)
		all.Go(func() { runs[i].grow(rand.New(rand.NewSource(int64(i/2))), 150, how) })
	}
	all.Wait()
	for i, r := range runs {
		alone := newRun(t)
		alone.grow(rand.New(rand.NewSource(int64(i/2))), 150, how)
		if !slices.Equal(r.bits, alone.bits) || !same(r.g.Clauses(), alone.g.Clauses()) {
			t.Errorf("run %d is another one than alone", i)
		}
		r.followsSome(rand.New(rand.NewSource(1)), 3)
	}
}

// The same rows may be handed in to calls at the same time, as nobody writes
// to them.
func TestSameRowsAtTheSameTime(t *testing.T) {
	_, c, rows := ordinary(8, 8)
	told := make([]string, 6)
	var all sync.WaitGroup
	for i := range told {
		all.Go(func() {
			g, _, _ := ordinary(8, 8)
			for _, k := range kinds {
				for _, x := range k.ask(g, c, rows[0], rows[1]) {
					told[i] += strconv.Itoa(x) + " "
				}
			}
		})
	}
	all.Wait()
	for _, s := range told {
		if s != told[0] || s == "" {
			t.Errorf("the same calls told %q and %q", told[0], s)
		}
	}
}

// Far more than a word: a row of many bits.
func TestLongRows(t *testing.T) {
	const w = 5000
	r := newRun(t)
	a, b := r.input(w), r.input(w)
	for _, k := range kinds {
		rows := [][]ref{a, b}
		r.call(k, a[0], rows[:k.rows]...)
	}
	rnd := rand.New(rand.NewSource(8))
	r.followsSome(rnd, 3)
	in := make([]bool, 2*w)
	for i := range w {
		in[i] = true
	}
	in[w] = true
	r.follows(in)
}
