package gate

import (
	"math"
	"math/rand"
	"slices"
	"sync"
	"testing"

	"breakwater/api"
	"breakwater/cnf"
	"breakwater/lit"
	"breakwater/unit"
)

// far are numbers that are literals of no gates of these tests, out to the
// ends of int.
var far = []int{
	-1, -2, -3, -4, -5, -100, -2 * api.MaxVars, math.MinInt32, math.MinInt / 2, math.MinInt + 2, math.MinInt + 1, math.MinInt,
	math.MaxInt32, 1 << 32, 1<<32 + 2, 1<<33 + 3, math.MaxInt / 2, math.MaxInt/2 + 1, math.MaxInt - 2, math.MaxInt - 1, math.MaxInt,
}

// wrong are numbers that are no literals of variables of g.
func wrong(g *Gates) []int {
	n := 2 * g.Vars()
	return append([]int{n, n + 1, n + 2, n + 3, n + 100, 2*n + 100}, far...)
}

// deep is a copy of clauses.
func deep(l [][]int) [][]int {
	var all [][]int
	for _, c := range l {
		all = append(all, slices.Clone(c))
	}
	return all
}

func same(a, b [][]int) bool {
	return slices.EqualFunc(a, b, func(c, d []int) bool { return slices.Equal(c, d) })
}

// asItWas tells a function that asks that g is as it was.
func asItWas(t *testing.T, g *Gates) func(what ...any) {
	t.Helper()
	vars, clauses := g.Vars(), deep(g.Clauses())
	return func(what ...any) {
		t.Helper()
		if g.Vars() != vars || !same(g.Clauses(), clauses) {
			t.Fatalf("%v: %d variables and %d clauses are %d and %d", what, vars, len(clauses), g.Vars(), len(g.Clauses()))
		}
	}
}

// closes asks for what holds where set does.
func closes(t *testing.T, g *Gates, set []int, want ...int) {
	t.Helper()
	held, ok := unit.Close(g.Clauses(), set)
	if !ok {
		t.Fatalf("Close(%v, %v) is false", g.Clauses(), set)
	}
	for _, x := range want {
		if !has(held, x) || has(held, x^1) {
			t.Errorf("Close(%v, %v) = %v, want %d", g.Clauses(), set, held, x)
		}
	}
}

// Promise 19.1: New, True.

func TestNew(t *testing.T) {
	g := New()
	if g == nil {
		t.Fatal("New is nil")
	}
	if g.Vars() != 1 {
		t.Errorf("a new one has %d variables", g.Vars())
	}
	if l := g.Clauses(); !same(l, [][]int{{0}}) {
		t.Errorf("a new one has the clauses %v", l)
	}
	if a, b := New(), New(); a == b {
		t.Error("New told the same gates twice")
	}
}

func TestTrue(t *testing.T) {
	g := New()
	check := func() {
		t.Helper()
		is := asItWas(t, g)
		for range 2 {
			if x := g.True(); x != 0 {
				t.Errorf("True is %d, not the literal of variable 0", x)
			}
		}
		is("True")
	}
	check()
	closes(t, g, nil, 0)
	x := g.Input()
	check()
	closes(t, g, nil, 0)
	g.And(x, g.Input())
	check()
	g.And(-1, x)
	check()
	closes(t, g, []int{x}, 0)
}

// True's Not holds nowhere.
func TestTrueAlwaysHolds(t *testing.T) {
	g := New()
	if held, ok := unit.Close(g.Clauses(), []int{lit.Not(g.True())}); ok {
		t.Errorf("True's Not may hold: %v", held)
	}
}

// Promise 19.1: Input.

func TestInput(t *testing.T) {
	g := New()
	for i := 1; i <= 100; i++ {
		was := deep(g.Clauses())
		x := g.Input()
		if x != 2*i {
			t.Errorf("Input %d told %d, not the literal of variable %d", i, x, i)
		}
		if g.Vars() != i+1 {
			t.Errorf("%d variables behind Input %d", g.Vars(), i)
		}
		if !same(g.Clauses(), was) {
			t.Errorf("Input %d changed the clauses to %v", i, g.Clauses())
		}
	}
}

// An input among gates is one of no variable that was there, also of those
// that gates made.
func TestInputIsNew(t *testing.T) {
	r := newRow()
	rnd := rand.New(rand.NewSource(3))
	for range 200 {
		r.grow(rnd, 1+rnd.Intn(5), 20, 1000)
		n, was := r.g.Vars(), deep(r.g.Clauses())
		x := r.all([]ref{r.input()})[0]
		if lit.Var(x) != n || lit.Neg(x) || r.g.Vars() != n+1 {
			t.Fatalf("Input told %d and there are %d variables, where there were %d", x, r.g.Vars(), n)
		}
		if !same(r.g.Clauses(), was) {
			t.Fatal("Input changed the clauses")
		}
	}
}

// An input may have either truth.
func TestInputIsFree(t *testing.T) {
	g := New()
	x, y := g.Input(), g.Input()
	g.And(x, y)
	g.Xor(x, y)
	for _, set := range [][]int{{x, y}, {x, y ^ 1}, {x ^ 1, y}, {x ^ 1, y ^ 1}} {
		closes(t, g, set, set...)
	}
	held, ok := unit.Close(g.Clauses(), nil)
	if !ok || has(held, x) || has(held, x^1) || has(held, y) || has(held, y^1) {
		t.Errorf("of no truths follows %v, %v", held, ok)
	}
}

// Gates have no greatest number of variables: chapter 19 names none.
func TestPastMaxVars(t *testing.T) {
	r := newRow()
	for range api.MaxVars + 2 {
		r.input()
	}
	last := ref{at: len(r.lits) - 1}
	if x := r.lits[last.at]; x != 2*(api.MaxVars+2) {
		t.Fatalf("the last input is %d", x)
	}
	first, ahead := ref{at: 0}, ref{at: last.at - 1}
	for _, k := range kinds {
		y := r.gate(k, []ref{last, not(ahead), first}[:k.places]...)
		r.gate(k, []ref{not(y), last, ahead}[:k.places]...)
	}
	if x := r.lits[len(r.lits)-1]; x < 2*api.MaxVars {
		t.Fatalf("the last gate is %d", x)
	}
	in := make([]bool, api.MaxVars+2)
	allTruths(3, func(b []bool) {
		in[0], in[len(in)-2], in[len(in)-1] = b[0], b[1], b[2]
		r.follows(t, in)
	})
}

// Promises 19.1 and 19.2: And, Or, Xor, Ite, Maj.

func TestExample(t *testing.T) {
	g := New()
	x := g.Input()
	y := g.And(x, g.True())
	closes(t, g, []int{x}, x, y)
	closes(t, g, []int{lit.Not(x)}, lit.Not(x), lit.Not(y))
	z := g.And(g.True(), x)
	closes(t, g, []int{x}, z)
	closes(t, g, []int{lit.Not(x)}, lit.Not(z))
}

// What gates say, in a table that is written out: of the truths of a, b, and
// c (a counts most), one for each place of says.
func TestTruthTables(t *testing.T) {
	for _, c := range []struct {
		name  string
		ask   func(g *Gates, a, b, c int) int
		says  string
		whose int
	}{
		{"And", func(g *Gates, a, b, _ int) int { return g.And(a, b) }, "0001", 2},
		{"Or", func(g *Gates, a, b, _ int) int { return g.Or(a, b) }, "0111", 2},
		{"Xor", func(g *Gates, a, b, _ int) int { return g.Xor(a, b) }, "0110", 2},
		{"Ite", func(g *Gates, a, b, c int) int { return g.Ite(a, b, c) }, "01010011", 3},
		{"Maj", func(g *Gates, a, b, c int) int { return g.Maj(a, b, c) }, "00010111", 3},
	} {
		g := New()
		l := []int{g.Input(), g.Input(), g.Input()}
		y := c.ask(g, l[0], l[1], l[2])
		for bits, says := range c.says {
			var set []int
			for i, x := range l {
				if i < c.whose && bits>>(c.whose-1-i)&1 == 0 || i >= c.whose {
					x ^= 1
				}
				set = append(set, x)
			}
			want := y
			if says == '0' {
				want = lit.Not(y)
			}
			t.Run(c.name, func(t *testing.T) { closes(t, g, set, want) })
		}
	}
}

// Each gate of all literals of a pool: of inputs, of their Nots, of True and
// its Not, of other gates, of the same literal twice or three times, of a
// literal and its Not, and so of Ite with its condition among its choices.
func TestGatesOfAll(t *testing.T) {
	for _, k := range kinds {
		t.Run(k.name, func(t *testing.T) {
			_, from := pool()
			tuples(k.places, from, func(of []ref) {
				r, _ := pool()
				r.gate(k, of...)
				r.followsAll(t)
			})
		})
	}
}

// The same, all in the same gates: none comes into another.
func TestGatesOfAllTogether(t *testing.T) {
	r, from := pool()
	for _, k := range kinds {
		tuples(k.places, from, func(of []ref) { r.gate(k, of...) })
	}
	r.followsAll(t)
}

// Gates with no input at all: of True and its Not.
func TestGatesOfNoInput(t *testing.T) {
	for _, k := range kinds {
		t.Run(k.name, func(t *testing.T) {
			r := newRow()
			yes := r.gate(always)
			tuples(k.places, []ref{yes, not(yes)}, func(of []ref) { r.gate(k, of...) })
			r.followsAll(t)
		})
	}
}

func TestIteOfItsCondition(t *testing.T) {
	r := newRow()
	c, x := r.input(), r.input()
	for _, f := range []ref{c, not(c)} {
		for _, other := range []ref{x, not(x), c, not(c)} {
			r.gate(kinds[3], c, f, other)
			r.gate(kinds[3], c, other, f)
			r.gate(kinds[3], not(c), f, other)
			r.gate(kinds[3], not(c), other, f)
		}
	}
	r.followsAll(t)
}

func TestSameGateTwice(t *testing.T) {
	for _, k := range kinds {
		t.Run(k.name, func(t *testing.T) {
			r := newRow()
			of := []ref{r.input(), r.input(), r.input()}[:k.places]
			y := r.gate(k, of...)
			z := r.gate(k, of...)
			r.gate(kinds[2], y, z)
			turned := slices.Clone(of)
			slices.Reverse(turned)
			r.gate(k, turned...)
			r.followsAll(t)
		})
	}
}

// Rows of gates, each of the one ahead, and of it alone, and of many.
func TestDeepGates(t *testing.T) {
	const depth = 5000
	for _, k := range kinds {
		t.Run(k.name, func(t *testing.T) {
			for place := range k.places {
				r := newRow()
				in := []ref{r.input(), r.input(), r.input()}
				y := in[0]
				for i := range depth {
					of := []ref{in[i%3], in[(i+1)%3], not(in[i%3])}[:k.places]
					of[place] = y
					y = r.gate(k, of...)
					if i%7 == 0 {
						y = not(y)
					}
				}
				r.followsAll(t)
			}
		})
	}
}

func TestGatesOfOneAlone(t *testing.T) {
	r := newRow()
	y := r.input()
	for i := range 2000 {
		k := kinds[i%len(kinds)]
		y = r.gate(k, []ref{y, not(y), y}[:k.places]...)
		z := r.gate(k, []ref{y, y, y}[:k.places]...)
		y = r.gate(kinds[3], ref{}, y, not(z))
	}
	r.followsAll(t)
}

// Whatever truths the inputs have, all clauses hold somewhere, and nowhere with
// a literal as it is not to be: so a solver's model of them has what gates say.
func TestModels(t *testing.T) {
	for seed := range int64(200) {
		rnd := rand.New(rand.NewSource(seed))
		r := newRow()
		for i := 0; i < 30 && r.g.Vars() < 9; i++ {
			r.grow(rnd, 1, 6, 3)
		}
		allTruths(r.inputs, func(in []bool) { models(t, r, in) })
	}
}

// models asks that all clauses hold somewhere where the inputs have these
// truths, and with each literal that was told nowhere as it is not to be.
func models(t *testing.T, r *row, in []bool) {
	t.Helper()
	l := slices.Clone(r.g.Clauses())
	for _, x := range r.set(in) {
		l = append(l, []int{x})
	}
	if _, ok, e := cnf.First(r.g.Vars(), l); !ok || e != api.OK {
		t.Fatalf("%v: the clauses hold nowhere where the inputs are %v: %d", r, in, e)
	}
	for i, is := range r.truths(in) {
		x := r.lits[i]
		if is {
			x ^= 1
		}
		if n, e := cnf.Count(r.g.Vars(), append(slices.Clone(l), []int{x})); n != 0 || e != api.OK {
			t.Fatalf("%v: %d holds %d times where the inputs are %v: %d", r, x, n, in, e)
		}
	}
}

// Promise 19.1: -1 of what is no literal.

// subsets calls do with all ways to put a number of off at one place at least,
// beside literals that are right.
func subsets(places int, right, off []int, do func(l []int)) {
	for at := 1; at < 1<<places; at++ {
		for i := range off {
			for _, a := range right {
				for _, b := range right {
					l := []int{a, b, a}[:places]
					for p := range l {
						if at>>p&1 == 1 {
							l[p] = off[(i+p)%len(off)]
						}
					}
					do(l)
				}
			}
		}
	}
}

func TestWrongLiterals(t *testing.T) {
	for _, k := range kinds {
		t.Run(k.name, func(t *testing.T) {
			r, from := pool()
			is := asItWas(t, r.g)
			subsets(k.places, r.all(from), wrong(r.g), func(l []int) {
				given := slices.Clone(l)
				if y := k.ask(r.g, l); y != -1 {
					t.Fatalf("%s%v = %d, of %d variables", k.name, given, y, r.g.Vars())
				}
			})
			is(k.name)
			r.followsAll(t)
		})
	}
}

// One wrong literal, at each place in turn, beside such as tell by themselves
// what holds: the same one twice, True and its Not, a literal and its Not.
func TestOneWrongLiteral(t *testing.T) {
	g := New()
	x, y := g.Input(), g.Input()
	right := []int{g.True(), lit.Not(g.True()), x, lit.Not(x), y}
	is := asItWas(t, g)
	for _, w := range wrong(g) {
		for _, a := range right {
			for _, b := range right {
				for name, got := range map[string]int{
					"And(w, a)": g.And(w, a), "And(a, w)": g.And(a, w), "And(w, w)": g.And(w, w),
					"Or(w, a)": g.Or(w, a), "Or(a, w)": g.Or(a, w), "Or(w, w)": g.Or(w, w),
					"Xor(w, a)": g.Xor(w, a), "Xor(a, w)": g.Xor(a, w), "Xor(w, w)": g.Xor(w, w),
					"Ite(w, a, b)": g.Ite(w, a, b), "Ite(a, w, b)": g.Ite(a, w, b), "Ite(a, b, w)": g.Ite(a, b, w),
					"Ite(a, w, w)": g.Ite(a, w, w), "Ite(w, a, w)": g.Ite(w, a, w), "Ite(w, w, w)": g.Ite(w, w, w),
					"Maj(w, a, b)": g.Maj(w, a, b), "Maj(a, w, b)": g.Maj(a, w, b), "Maj(a, b, w)": g.Maj(a, b, w),
					"Maj(a, w, w)": g.Maj(a, w, w), "Maj(w, w, a)": g.Maj(w, w, a), "Maj(w, w, w)": g.Maj(w, w, w),
				} {
					if got != -1 {
						t.Fatalf("%s = %d, where w is %d, a %d, b %d, of %d variables", name, got, w, a, b, g.Vars())
					}
				}
				is(w, a, b)
			}
		}
	}
}

// The variable that comes next is not there till it comes; then it is.
func TestNextVariable(t *testing.T) {
	for _, k := range kinds {
		t.Run(k.name, func(t *testing.T) {
			for _, sign := range []int{0, 1} {
				g := New()
				for range 20 {
					next := 2 * g.Vars()
					l := []int{g.True(), g.True(), g.True()}[:k.places]
					for place := range l {
						l[place] = next + sign
						if y := k.ask(g, l); y != -1 {
							t.Fatalf("%s%v = %d, of %d variables", k.name, l, y, g.Vars())
						}
						l[place] = g.True()
					}
					if x := g.Input(); x != next {
						t.Fatalf("Input told %d, want %d", x, next)
					}
					for place := range l {
						l[place] = next + sign
						if y := k.ask(g, l); y < 0 {
							t.Fatalf("%s%v = %d, of %d variables", k.name, l, y, g.Vars())
						}
					}
				}
			}
		})
	}
}

// What is asked for behind wrong calls is as it would be without them.
func TestWrongCallsLeaveNothing(t *testing.T) {
	a, b := newRow(), newRow()
	one, two := rand.New(rand.NewSource(5)), rand.New(rand.NewSource(5))
	for i := range 300 {
		a.grow(one, 1, 10, 9)
		b.grow(two, 1, 10, 9)
		for _, k := range kinds {
			for _, w := range wrong(b.g) {
				l := []int{b.lits[i], b.lits[i], b.lits[i]}[:k.places]
				l[i%k.places] = w
				if y := k.ask(b.g, l); y != -1 {
					t.Fatalf("%s%v = %d, of %d variables", k.name, l, y, b.g.Vars())
				}
			}
		}
	}
	if !slices.Equal(a.lits, b.lits) || a.g.Vars() != b.g.Vars() || !same(a.g.Clauses(), b.g.Clauses()) {
		t.Errorf("with wrong calls between, %v are %v", a.lits, b.lits)
	}
}

// Promise 19.1: Vars, Clauses.

// Behind each call all literals, told or in clauses, are of variables that
// are there, and none goes.
func TestVars(t *testing.T) {
	for seed := range int64(20) {
		rnd := rand.New(rand.NewSource(seed))
		r := newRow()
		looked := 0
		for range 300 {
			vars := r.g.Vars()
			r.grow(rnd, 1, 12, 1000)
			n := r.g.Vars()
			last := len(r.lits) - 1
			if input := r.steps[last].kind == nil; n < vars || input && n != vars+1 {
				t.Fatalf("%v: %d variables are %d", r, vars, n)
			}
			if r.steps[last].kind == always && n != vars {
				t.Fatalf("%v: True makes of %d variables %d", r, vars, n)
			}
			there(t, n, r.lits[last:])
			for _, c := range r.g.Clauses()[looked:] {
				there(t, n, c)
			}
			looked = len(r.g.Clauses())
			if r.g.Vars() != n {
				t.Fatal("Vars or Clauses changed Vars")
			}
		}
	}
}

// there asks that all of l are literals of n variables.
func there(t *testing.T, n int, l []int) {
	t.Helper()
	for _, x := range l {
		if x < 0 || x >= 2*n {
			t.Fatalf("%v has %d, of %d variables", l, x, n)
		}
	}
}

// A later call leaves what came first at its place, also in lists that were
// told ahead.
func TestClausesAsTheyCame(t *testing.T) {
	r := newRow()
	rnd := rand.New(rand.NewSource(9))
	var lists, copies [][][]int
	for range 300 {
		l := r.g.Clauses()
		lists, copies = append(lists, l), append(copies, deep(l))
		r.grow(rnd, 1, 12, 6)
	}
	all := r.g.Clauses()
	if len(all) < 300 {
		t.Fatalf("%d clauses, too few to tell much", len(all))
	}
	if !same(r.g.Clauses(), all) {
		t.Error("Clauses tells others the second time")
	}
	for i, was := range copies {
		if !same(lists[i], was) {
			t.Fatalf("the list that was told behind call %d is another", i)
		}
		if len(all) < len(was) || !same(all[:len(was)], was) {
			t.Fatalf("what came up to call %d is no more at its place", i)
		}
	}
}

// Who puts clauses behind those that were told does not come into others'.
func TestClausesWithMoreBehind(t *testing.T) {
	r := newRow()
	rnd := rand.New(rand.NewSource(11))
	for range 200 {
		r.grow(rnd, 1, 12, 3)
		a := append(r.g.Clauses(), []int{-5})
		b := append(r.g.Clauses(), []int{-6})
		r.g.Or(r.g.Input(), r.lits[0])
		if a[len(a)-1][0] != -5 || b[len(b)-1][0] != -6 {
			t.Fatalf("a clause that was put behind is %v, %v", a[len(a)-1], b[len(b)-1])
		}
		for _, c := range r.g.Clauses() {
			there(t, r.g.Vars(), c)
		}
	}
}

// Nothing there.

func TestNil(t *testing.T) {
	var g *Gates
	literals := append([]int{0, 1, 2, 3, 100}, far...)
	for range 2 {
		if x := g.True(); x != -1 {
			t.Errorf("True of nil is %d", x)
		}
		if x := g.Input(); x != -1 {
			t.Errorf("Input of nil is %d", x)
		}
		if n := g.Vars(); n != 0 {
			t.Errorf("Vars of nil is %d", n)
		}
		if l := g.Clauses(); len(l) != 0 {
			t.Errorf("Clauses of nil are %v", l)
		}
		for _, k := range kinds {
			for _, a := range literals {
				for _, b := range literals {
					for _, l := range [][]int{{a, b, a}, {a, a, b}, {b, a, a}} {
						if x := k.ask(g, l[:k.places]); x != -1 {
							t.Fatalf("%s%v of nil is %d", k.name, l[:k.places], x)
						}
					}
				}
			}
		}
	}
}

// Rules that hold everywhere.

// The same calls tell the same, also with others of another thing between.
func TestSameCallsTellTheSame(t *testing.T) {
	for seed := range int64(30) {
		a, b, c := newRow(), newRow(), newRow()
		one, two := rand.New(rand.NewSource(seed)), rand.New(rand.NewSource(seed))
		other := rand.New(rand.NewSource(seed + 100))
		for range 200 {
			a.grow(one, 1, 10, 5)
			c.grow(other, 1, 10, 5)
			b.grow(two, 1, 10, 5)
			if a.g.Vars() != b.g.Vars() {
				t.Fatalf("%d variables, and %d", a.g.Vars(), b.g.Vars())
			}
		}
		if !slices.Equal(a.lits, b.lits) || !same(a.g.Clauses(), b.g.Clauses()) {
			t.Fatalf("the same calls told %v and %v", a.lits, b.lits)
		}
		a.followsAll(t)
		c.followsAll(t)
	}
}

// Two calls at the same time, on things of their own, do not touch one
// another.
func TestAtTheSameTime(t *testing.T) {
	const n = 8
	rows := make([]*row, n)
	var all sync.WaitGroup
	for i := range rows {
		all.Go(func() {
			r := newRow()
			r.grow(rand.New(rand.NewSource(int64(i/2))), 3000, 40, 6)
			rows[i] = r
		})
	}
	all.Wait()
	for i, r := range rows {
		alone := newRow()
		alone.grow(rand.New(rand.NewSource(int64(i/2))), 3000, 40, 6)
		if !slices.Equal(r.lits, alone.lits) || !same(r.g.Clauses(), alone.g.Clauses()) {
			t.Errorf("row %d is another one than alone", i)
		}
		r.followsAll(t)
	}
}
