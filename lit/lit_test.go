package lit

import (
	"math"
	"slices"
	"testing"

	"breakwater/api"
)

const last = api.MaxVars - 1

// noLiterals are numbers below 0, near to it and far off.
var noLiterals = []int{-1, -2, -3, -7, -8, -2 * api.MaxVars, math.MinInt32, math.MinInt + 1, math.MinInt}

// noVars are numbers of no variable, on both sides.
var noVars = []int{-1, -2, -api.MaxVars, math.MinInt + 1, math.MinInt,
	api.MaxVars, api.MaxVars + 1, 2 * api.MaxVars, 1 << 32, math.MaxInt / 2, math.MaxInt/2 + 1, math.MaxInt - 1, math.MaxInt}

// known are literals with all that is to be told of them: ordinary ones, those
// at both ends of what Make has, and the greatest number of all.
var known = []struct {
	l, variable int
	negated     bool
	other       int
	number      int
}{
	{0, 0, false, 1, 1},
	{1, 0, true, 0, -1},
	{2, 1, false, 3, 2},
	{3, 1, true, 2, -2},
	{6, 3, false, 7, 4},
	{7, 3, true, 6, -4},
	{200, 100, false, 201, 101},
	{201, 100, true, 200, -101},
	{2 * last, last, false, 2*last + 1, api.MaxVars},
	{2*last + 1, last, true, 2 * last, -api.MaxVars},
	{2 * api.MaxVars, api.MaxVars, false, 2*api.MaxVars + 1, api.MaxVars + 1},
	{math.MaxInt - 1, math.MaxInt / 2, false, math.MaxInt, math.MaxInt/2 + 1},
	{math.MaxInt, math.MaxInt / 2, true, math.MaxInt - 1, -(math.MaxInt/2 + 1)},
}

// Promise 2.1.

func TestMake(t *testing.T) {
	for _, c := range []struct {
		v    int
		neg  bool
		want int
	}{
		{0, false, 0}, {0, true, 1}, {1, false, 2}, {1, true, 3}, {3, false, 6}, {3, true, 7}, {100, true, 201},
		{last, false, 2 * last}, {last, true, 2*last + 1},
	} {
		if got, e := Make(c.v, c.neg); got != c.want || e != api.OK {
			t.Errorf("Make(%d, %t) = %d, %d, want %d", c.v, c.neg, got, e, c.want)
		}
	}
}

func TestMakeOfNoVariable(t *testing.T) {
	for _, v := range noVars {
		for _, neg := range []bool{false, true} {
			if got, e := Make(v, neg); got != 0 || e != api.ErrVar {
				t.Errorf("Make(%d, %t) = %d, %d, want 0, ErrVar", v, neg, got, e)
			}
		}
	}
}

func TestVarNegNot(t *testing.T) {
	for _, c := range known {
		if got := Var(c.l); got != c.variable {
			t.Errorf("Var(%d) = %d, want %d", c.l, got, c.variable)
		}
		if got := Neg(c.l); got != c.negated {
			t.Errorf("Neg(%d) = %t, want %t", c.l, got, c.negated)
		}
		if got := Not(c.l); got != c.other {
			t.Errorf("Not(%d) = %d, want %d", c.l, got, c.other)
		}
	}
}

func TestNumbersBelowZeroAreNoLiterals(t *testing.T) {
	for _, l := range noLiterals {
		if got := Var(l); got != -1 {
			t.Errorf("Var(%d) = %d, want -1", l, got)
		}
		if Neg(l) {
			t.Errorf("Neg(%d)", l)
		}
		if got := Not(l); got != l {
			t.Errorf("Not(%d) = %d", l, got)
		}
		for _, m := range [][]bool{nil, {}, {false}, {true}, {true, true, true, true}, {false, false, false, false}} {
			if Holds(l, m) {
				t.Errorf("Holds(%d, %t)", l, m)
			}
		}
	}
}

func TestHolds(t *testing.T) {
	long := make([]bool, api.MaxVars)
	long[last] = true
	for _, c := range []struct {
		name string
		l    int
		m    []bool
		want bool
	}{
		{"a true variable", 0, []bool{true}, true},
		{"the negation of a true variable", 1, []bool{true}, false},
		{"a false variable", 0, []bool{false}, false},
		{"the negation of a false variable", 1, []bool{false}, true},
		{"the variable's own truth", 4, []bool{false, false, true, false}, true},
		{"the negation by the variable's own truth", 5, []bool{false, false, true, false}, false},
		{"the variable's own falsehood", 4, []bool{true, true, false, true}, false},
		{"the negation by the variable's own falsehood", 5, []bool{true, true, false, true}, true},
		{"the last of a list", 2, []bool{false, true}, true},
		{"the negation of the last of a list", 3, []bool{false, true}, false},
		{"just past the list", 4, []bool{true, true}, false},
		{"the negation just past the list", 5, []bool{true, true}, true},
		{"far past the list", 200, []bool{true, true}, false},
		{"the negation far past the list", 201, []bool{true, true}, true},
		{"no list", 0, nil, false},
		{"a negation and no list", 1, nil, true},
		{"an empty list", 6, []bool{}, false},
		{"a negation and an empty list", 7, []bool{}, true},
		{"the last variable", 2 * last, long, true},
		{"the negation of the last variable", 2*last + 1, long, false},
		{"the last variable but one", 2*last - 2, long, false},
		{"past the last variable", 2 * api.MaxVars, long, false},
		{"the negation past the last variable", 2*api.MaxVars + 1, long, true},
		{"the greatest number but one", math.MaxInt - 1, []bool{true}, false},
		{"the greatest number", math.MaxInt, []bool{true}, true},
	} {
		if got := Holds(c.l, c.m); got != c.want {
			t.Errorf("%s: Holds(%d, ..) = %t", c.name, c.l, got)
		}
	}
}

// Whatever the truths are, just one of a variable's two literals holds.
func TestOneOfTwoHolds(t *testing.T) {
	for bits := range 1 << 4 {
		m := []bool{bits&1 != 0, bits&2 != 0, bits&4 != 0, bits&8 != 0}
		kept := slices.Clone(m)
		for v := range 6 {
			is := v < len(m) && m[v]
			if Holds(2*v, m) != is || Holds(2*v+1, m) == is {
				t.Errorf("variable %d of %t: %t, its negation %t", v, m, Holds(2*v, m), Holds(2*v+1, m))
			}
		}
		if !slices.Equal(m, kept) {
			t.Errorf("Holds made %t of %t", m, kept)
		}
	}
}

// Promise 2.2.

func TestNumber(t *testing.T) {
	for _, c := range known {
		if got := Number(c.l); got != c.number {
			t.Errorf("Number(%d) = %d, want %d", c.l, got, c.number)
		}
	}
	for _, l := range noLiterals {
		if got := Number(l); got != 0 {
			t.Errorf("Number(%d) = %d, want 0", l, got)
		}
	}
}

func TestOf(t *testing.T) {
	for _, c := range []struct{ n, want int }{
		{1, 0}, {-1, 1}, {2, 2}, {-2, 3}, {4, 6}, {-4, 7}, {101, 200}, {-101, 201},
		{api.MaxVars, 2 * last}, {-api.MaxVars, 2*last + 1}, {last, 2*last - 2}, {-last, 2*last - 1},
	} {
		if got, e := Of(c.n); got != c.want || e != api.OK {
			t.Errorf("Of(%d) = %d, %d, want %d", c.n, got, e, c.want)
		}
	}
}

func TestOfNoNumber(t *testing.T) {
	for _, n := range []int{0, api.MaxVars + 1, -api.MaxVars - 1, api.MaxVars + 2, -api.MaxVars - 2, 2 * api.MaxVars, -2 * api.MaxVars,
		1 << 32, -1 << 32, math.MaxInt - 1, math.MaxInt, math.MinInt + 1, math.MinInt} {
		if got, e := Of(n); got != 0 || e != api.ErrVar {
			t.Errorf("Of(%d) = %d, %d, want 0, ErrVar", n, got, e)
		}
	}
}

// All literals that Make has are gone over: what they are made of is told
// again, and no two are the same.
func TestAllLiterals(t *testing.T) {
	next := 0
	for v := range api.MaxVars {
		for _, neg := range []bool{false, true} {
			l, e := Make(v, neg)
			if l != next || e != api.OK {
				t.Fatalf("Make(%d, %t) = %d, %d, want %d", v, neg, l, e, next)
			}
			next++
			checkLiteral(t, l, v, neg)
		}
	}
}

func checkLiteral(t *testing.T, l, v int, neg bool) {
	if Var(l) != v || Neg(l) != neg {
		t.Fatalf("%d is of variable %d, negated %t; want %d, %t", l, Var(l), Neg(l), v, neg)
	}
	if o := Not(l); o == l || Var(o) != v || Neg(o) == neg || Not(o) != l {
		t.Fatalf("Not(%d) = %d, and Not of that %d", l, o, Not(o))
	}
	n := Number(l)
	if (n < 0) != neg || n != v+1 && n != -v-1 || Number(Not(l)) != -n {
		t.Fatalf("Number(%d) = %d, and of its other %d", l, n, Number(Not(l)))
	}
	if back, e := Of(n); back != l || e != api.OK {
		t.Fatalf("Of(Number(%d)) = %d, %d", l, back, e)
	}
}
