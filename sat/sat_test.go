package sat

import (
	"fmt"
	"math"
	"math/rand"
	"slices"
	"sync"
	"testing"

	"breakwater/api"
	"breakwater/cnf"
	"breakwater/lit"
	"breakwater/rup"
)

var (
	badVars    = []int{-1, -2, -api.MaxVars, math.MinInt32, math.MinInt + 1, math.MinInt, api.MaxVars + 1, api.MaxVars + 2, 1 << 32, 1 << 62, math.MaxInt - 1, math.MaxInt}
	badBudgets = []int{-1, -2, -6561, math.MinInt32, -1 << 32, math.MinInt + 1, math.MinInt}
	budgets    = []int{0, 1, 2, 6561, math.MaxInt32, 1 << 32, math.MaxInt - 1, math.MaxInt}
	// badLits are none of any variable.
	badLits = []int{-1, -2, -3, -2 * api.MaxVars, math.MinInt32, math.MinInt + 1, math.MinInt,
		2 * api.MaxVars, 2*api.MaxVars + 1, 1 << 32, 1<<32 + 1, 1 << 62, math.MaxInt - 1, math.MaxInt}
)

// four can not hold all together, which no clause of one literal tells.
func four() problem { return of(2, []int{0, 2}, []int{0, 3}, []int{1, 2}, []int{1, 3}) }

// refuses asks that Solve tells that error, and nothing else.
func refuses(t *testing.T, vars int, l [][]int, budget int, want api.Errno) {
	t.Helper()
	r, e := Solve(vars, l, budget)
	if e != want {
		t.Errorf("%d variables, %d clauses, budget %d: error %d, want %d", vars, len(l), budget, e, want)
	}
	if r.Status != api.Unknown || len(r.Model) != 0 || len(r.Proof) != 0 || r.Conflicts != 0 {
		t.Errorf("%d variables, %d clauses, budget %d: %v beside the error %d", vars, len(l), budget, r, e)
	}
}

// Promise 14.1: the errors.

func TestWrongNumbersOfVariables(t *testing.T) {
	for _, vars := range badVars {
		for _, l := range [][][]int{nil, {}, {nil}, {{0}}, {{0}, {1}}} {
			for _, budget := range budgets {
				refuses(t, vars, l, budget, api.ErrVar)
			}
		}
	}
}

func TestTooManyClauses(t *testing.T) {
	for _, c := range [][]int{nil, {0}, {1, 2}} {
		l := slices.Repeat([][]int{c}, api.MaxClauses+1)
		for _, budget := range []int{0, 5, math.MaxInt} {
			refuses(t, 2, l, budget, api.ErrLimit)
			refuses(t, api.MaxVars, l, budget, api.ErrLimit)
		}
	}
}

func TestWrongLiterals(t *testing.T) {
	for vars := range 4 {
		for _, x := range append([]int{2 * vars, 2*vars + 1, 2*vars + 2, 2 * api.MaxVars}, badLits...) {
			refuses(t, vars, [][]int{{x}}, 5, api.ErrVar)
			if vars == 0 {
				continue
			}
			refuses(t, vars, [][]int{{0, 1, x}}, 5, api.ErrVar)
			refuses(t, vars, [][]int{{x, 0}, {1}}, 5, api.ErrVar)
			// Also where there's a contradiction ahead of it.
			refuses(t, vars, [][]int{{0}, {1}, nil, {0, x, 0}}, 0, api.ErrVar)
		}
	}
	for _, x := range badLits {
		refuses(t, api.MaxVars, [][]int{{x}}, 5, api.ErrVar)
	}
}

func TestBudgetsBelow0(t *testing.T) {
	for _, p := range []problem{of(0), of(3), of(0, nil), of(1, []int{0}), of(1, []int{0}, []int{1}), four()} {
		for _, budget := range badBudgets {
			refuses(t, p.vars, p.l, budget, api.ErrArg)
		}
	}
}

func TestWhichErrorIsFirst(t *testing.T) {
	many := slices.Repeat([][]int{{0}}, api.MaxClauses+1)
	wrong := slices.Repeat([][]int{{-1}}, api.MaxClauses+1)
	for _, budget := range badBudgets {
		refuses(t, -1, nil, budget, api.ErrVar)
		refuses(t, api.MaxVars+1, many, budget, api.ErrVar)
		refuses(t, 1, many, budget, api.ErrLimit)
		refuses(t, 1, wrong, budget, api.ErrLimit)
		refuses(t, 1, [][]int{{2}}, budget, api.ErrVar)
		refuses(t, 1, [][]int{{0}, {-1}}, budget, api.ErrVar)
		refuses(t, 1, [][]int{{0}}, budget, api.ErrArg)
	}
	refuses(t, -1, many, 5, api.ErrVar)
	refuses(t, 1, wrong, 5, api.ErrLimit)
}

func TestErrorsAreThoseOfCheck(t *testing.T) {
	r := rand.New(rand.NewSource(1))
	for range 3000 {
		vars := r.Intn(6) - 1
		var l [][]int
		for range r.Intn(4) {
			c := make([]int, r.Intn(4))
			for i := range c {
				c[i] = r.Intn(12) - 1
			}
			l = append(l, c)
		}
		want := cnf.Check(vars, l)
		if want != api.OK {
			refuses(t, vars, l, r.Intn(9)-4, want)
			continue
		}
		refuses(t, vars, l, -1-r.Intn(4), api.ErrArg)
		solved(t, of(vars, l...), r.Intn(4))
	}
}

// Promise 14.1: Sat.

func TestNoClauses(t *testing.T) {
	for _, vars := range []int{0, 1, 2, 7, 8, 9, 64, 1000, api.MaxVars - 1, api.MaxVars} {
		for _, l := range [][][]int{nil, {}} {
			for _, budget := range budgets {
				if vars > 1000 && budget > 0 {
					continue
				}
				r := solved(t, of(vars, l...), budget)
				if r.Status != api.Sat || r.Conflicts != 0 {
					t.Errorf("%d variables, no clauses: status %d, %d conflicts", vars, r.Status, r.Conflicts)
				}
			}
		}
	}
}

func TestModels(t *testing.T) {
	tests := []struct {
		p    problem
		want []bool
	}{
		{of(1, []int{0}), []bool{true}},
		{of(1, []int{1}), []bool{false}},
		{of(2, []int{0, 2}, []int{1, 2}, []int{0, 3}), []bool{true, true}},
		{of(2, []int{0, 2}, []int{0, 3}, []int{1, 3}), []bool{true, false}},
		{of(2, []int{1, 3}, []int{0, 3}, []int{1, 2}), []bool{false, false}},
		{of(3, []int{0, 2, 4}, []int{1}, []int{3}), []bool{false, false, true}},
		// Each literal follows from the one ahead.
		{of(4, []int{5, 7}, []int{3, 4}, []int{1, 2}, []int{0}), []bool{true, true, true, false}},
		{whole(4).without(0), []bool{false, false, false, false}},
		{whole(4).without(5), []bool{true, false, true, false}},
		{whole(8).without(255), slices.Repeat([]bool{true}, 8)},
	}
	for _, test := range tests {
		if r := is(t, test.p, api.Sat); !slices.Equal(r.Model, test.want) {
			t.Errorf("%v: model %v, want %v", test.p, r.Model, test.want)
		}
	}
}

func TestVariablesThatNoClauseHas(t *testing.T) {
	for vars := 4; vars < 40; vars++ {
		for v := range vars {
			r := is(t, of(vars, []int{2*v + 1}), api.Sat)
			if r.Model[v] {
				t.Errorf("variable %d of %d is true", v, vars)
			}
			if r = is(t, of(vars, []int{2 * v}), api.Sat); !r.Model[v] {
				t.Errorf("variable %d of %d is false", v, vars)
			}
			is(t, of(vars, []int{2 * v}, []int{2*v + 1}), api.Unsat)
		}
		last := 2 * (vars - 1)
		is(t, of(vars, []int{0, last}, []int{0, last + 1}, []int{1, last}), api.Sat)
		is(t, of(vars, []int{0, last}, []int{0, last + 1}, []int{1, last}, []int{1, last + 1}), api.Unsat)
	}
}

func TestClausesThatAlwaysHold(t *testing.T) {
	is(t, of(1, []int{0, 1}), api.Sat)
	is(t, of(1, []int{1, 0}, []int{0}), api.Sat)
	is(t, of(1, []int{0, 1}, []int{0}, []int{1}), api.Unsat)
	is(t, of(2, []int{0, 1, 2}, []int{3, 2}, []int{2, 1, 3, 0}), api.Sat)
	always := [][]int{{0, 1}, {2, 3}, {1, 0, 2}, {3, 0, 2}, {0, 1, 2, 3}, {0, 0, 1, 1}}
	is(t, four().with(always...), api.Unsat)
	for i := range 4 {
		is(t, four().without(i).with(always...), api.Sat)
	}
}

func TestLiteralsAndClausesThatComeTwice(t *testing.T) {
	is(t, of(1, []int{0, 0}), api.Sat)
	is(t, of(1, []int{0, 0}, []int{1, 1, 1}), api.Unsat)
	is(t, of(2, []int{0, 0, 2, 2}, []int{0, 3, 0}, []int{2, 1, 2}), api.Sat)
	twice := of(2, []int{0, 2, 0, 2}, []int{3, 0, 3}, []int{2, 1, 1}, []int{1, 3, 3})
	is(t, twice, api.Unsat)
	is(t, twice.with(twice.l...), api.Unsat)
	for i := range 4 {
		r := is(t, twice.without(i).with(twice.without(i).l...), api.Sat)
		if want := is(t, four().without(i), api.Sat).Model; !slices.Equal(r.Model, want) {
			t.Errorf("model %v, want %v", r.Model, want)
		}
	}
	is(t, of(1, []int{0}, []int{0}, []int{0}), api.Sat)
	is(t, of(0, nil, nil), api.Unsat)
}

// Promise 14.1: Unsat.

func TestTheChaptersExample(t *testing.T) {
	r, e := Solve(1, [][]int{{0}, {1}}, 5)
	if e != api.OK || r.Status != api.Unsat {
		t.Errorf("status %d, error %d", r.Status, e)
	}
}

func TestEmptyClauses(t *testing.T) {
	for _, c := range [][]int{nil, {}} {
		for _, p := range []problem{of(0), of(1), of(5), of(1, []int{0}), of(2, []int{0, 2}, []int{1, 3}), four(), chain(20), threes(rand.New(rand.NewSource(2)), 30)} {
			for place := range len(p.l) + 1 {
				q := problem{name: "empty one", vars: p.vars, l: slices.Insert(slices.Clone(p.l), place, c)}
				if r := solved(t, q, 0); r.Status != api.Unsat || r.Conflicts != 0 {
					t.Errorf("%v: status %d, %d conflicts", q, r.Status, r.Conflicts)
				}
			}
		}
	}
}

// What fails at level 0 alone is found with no conflict that counts.
func TestConflictsAtLevel0AreNotCounted(t *testing.T) {
	tests := []problem{
		of(1, []int{0}, []int{1}),
		of(1, []int{1}, []int{0}),
		of(9, []int{16}, []int{3, 5}, []int{17}),
		of(2, []int{0}, []int{1, 2}, []int{1, 3}),
		of(3, []int{1, 3, 5}, []int{0}, []int{2}, []int{4}),
		chain(50).with([]int{0}, []int{99}),
		holes(2, 1),
	}
	for _, p := range tests {
		for _, budget := range budgets {
			r := solved(t, p, budget)
			if r.Status != api.Unsat || r.Conflicts != 0 {
				t.Errorf("%v with budget %d: status %d, %d conflicts", p, budget, r.Status, r.Conflicts)
			}
		}
	}
}

func TestOneConflictIsEnough(t *testing.T) {
	tests := []problem{
		four(),
		of(2, []int{3, 1}, []int{2, 1}, []int{3, 0}, []int{2, 0}),
		of(3, []int{0, 2}, []int{0, 3}, []int{1, 4}, []int{1, 5}),
	}
	for _, p := range tests {
		if r := is(t, p, api.Unsat); r.Conflicts != 1 {
			t.Errorf("%v: %d conflicts", p, r.Conflicts)
		}
		if r := solved(t, p, 1); r.Status != api.Unsat || r.Conflicts != 1 {
			t.Errorf("%v with budget 1: status %d, %d conflicts", p, r.Status, r.Conflicts)
		}
		if r := solved(t, p, 0); r.Status != api.Unknown {
			t.Errorf("%v with budget 0: status %d", p, r.Status)
		}
	}
}

// hard are problems, larger ones than can be counted, that are Unsat.
func hard() []problem {
	return []problem{
		holes(4, 3), holes(5, 4), holes(6, 5), holes(7, 6), holes(9, 4),
		sums(3, 3, 4), sums(3, 3, 0, 5, 7),
		product(4, 13), product(5, 257), product(6, 2011), product(7, 4093),
		whole(9), whole(10),
	}
}

func TestManyConflictsAreWanted(t *testing.T) {
	t.Parallel()
	for _, p := range hard() {
		r := is(t, p, api.Unsat)
		if r.Conflicts < 5 || len(r.Proof) < 2 {
			t.Errorf("%v: %d conflicts, a proof of %d clauses", p, r.Conflicts, len(r.Proof))
		}
	}
}

func TestManyConflictsAndAModel(t *testing.T) {
	for _, p := range []problem{holes(6, 6), holes(9, 9), sums(4, 4), sums(4, 4, 3, 8), sums(5, 5, 0, 1, 7, 24),
		product(5, 23*29), product(6, 53*61), product(7, 113*127), whole(9).without(200), whole(10).without(77)} {
		is(t, p, api.Sat)
	}
	r := is(t, product(7, 113*127), api.Sat)
	a, b := 0, 0
	for i := range 7 {
		if r.Model[i] {
			a |= 1 << i
		}
		if r.Model[7+i] {
			b |= 1 << i
		}
	}
	if a*b != 113*127 {
		t.Errorf("%d times %d", a, b)
	}
}

// A proof that refutes the clauses does so in any order of these.
func TestClausesInAnotherOrder(t *testing.T) {
	r := rand.New(rand.NewSource(3))
	for _, p := range []problem{four(), holes(5, 4), sums(3, 3, 1), whole(6), product(4, 13)} {
		for range 5 {
			m := p.mixed(r)
			if got := is(t, m, api.Unsat); !rup.Refutes(p.l, got.Proof) {
				t.Errorf("%v: the proof of %v does not refute", p, m)
			}
		}
	}
}

// Promise 14.1: Unknown, and Conflicts.

// wants asks that p is found with the conflicts that it wants, and more; with
// less it is Unknown.
func wants(t *testing.T, p problem, less ...int) {
	t.Helper()
	full := solved(t, p, plenty)
	if full.Status == api.Unknown {
		t.Fatalf("%v is Unknown", p)
	}
	n := full.Conflicts
	for _, budget := range []int{n, n + 1, n + 2, 2*n + 7, math.MaxInt32, math.MaxInt - 1, math.MaxInt} {
		if r, e := Solve(p.vars, p.l, budget); e != api.OK || !same(r, full) {
			t.Errorf("%v wants %d conflicts: with budget %d status %d, %d conflicts", p, n, budget, r.Status, r.Conflicts)
		}
	}
	for _, budget := range append(less, n-1, n-2, n/2, 2, 1, 0) {
		if budget < 0 || budget >= n {
			continue
		}
		if r := solved(t, p, budget); r.Status != api.Unknown {
			t.Errorf("%v wants %d conflicts: with budget %d status %d", p, n, budget, r.Status)
		}
	}
}

func TestBudgets(t *testing.T) {
	t.Parallel()
	for _, p := range append(hard(), four(), holes(9, 9), product(6, 53*61), whole(7).without(90)) {
		wants(t, p)
	}
	r := rand.New(rand.NewSource(4))
	for vars := 1; vars <= 60; vars++ {
		wants(t, threes(r, vars))
	}
}

func TestAllBudgets(t *testing.T) {
	t.Parallel()
	for _, p := range []problem{holes(5, 4), sums(3, 3, 4), whole(6), product(5, 23*29), product(4, 101)} {
		var all []int
		for budget := range solved(t, p, plenty).Conflicts {
			all = append(all, budget)
		}
		wants(t, p, all...)
	}
}

func TestBudget0(t *testing.T) {
	if r := solved(t, four(), 0); r.Status != api.Unknown || r.Conflicts != 0 {
		t.Errorf("four: status %d, %d conflicts", r.Status, r.Conflicts)
	}
	// With no conflict at all a model is found.
	for _, p := range []problem{of(3), of(3, []int{0, 2, 4}), chain(30), chain(30).with([]int{0}), of(1, []int{0, 1})} {
		if r := solved(t, p, 0); r.Status != api.Sat {
			t.Errorf("%v: status %d", p, r.Status)
		}
	}
}

func TestTheSameArgumentsHaveTheSameResult(t *testing.T) {
	r := rand.New(rand.NewSource(5))
	list := append(hard(), of(0), of(0, nil), four(), threes(r, 20), threes(r, 50), threes(r, 80), product(6, 53*61))
	for _, p := range list {
		for _, budget := range []int{0, 3, 100, plenty} {
			a, e := Solve(p.vars, p.l, budget)
			b, f := Solve(p.vars, copied(p.l), budget)
			if e != f || !same(a, b) {
				t.Errorf("%v with budget %d: %d %d conflicts, then %d %d", p, budget, a.Status, a.Conflicts, b.Status, b.Conflicts)
			}
		}
	}
}

// Promise 14.2.

// small asks Solve with a budget of 7000, which is never used up.
func small(t *testing.T, p problem) {
	t.Helper()
	r := isAsCounted(t, p, 7000)
	if r.Status == api.Unsat {
		allDiffer(t, p, r)
	}
}

// allDiffer asks that no clause was learned twice, and none that was there:
// that is why there are never more conflicts than clauses.
func allDiffer(t *testing.T, p problem, r api.Result) {
	t.Helper()
	met := map[string]bool{}
	key := func(c []int) string {
		return fmt.Sprint(slices.Compact(slices.Sorted(slices.Values(c))))
	}
	for _, c := range p.l {
		met[key(c)] = true
	}
	for _, c := range r.Proof[:len(r.Proof)-1] {
		if met[key(c)] {
			t.Fatalf("%v: %v was learned, and was there", p, c)
		}
		met[key(c)] = true
	}
}

// allClauses are those of so many variables that do not always hold.
func allClauses(vars int) [][]int {
	if vars == 0 {
		return [][]int{nil}
	}
	var l [][]int
	for _, c := range allClauses(vars - 1) {
		l = append(l, c, append(slices.Clone(c), 2*vars-2), append(slices.Clone(c), 2*vars-1))
	}
	return l
}

func TestAllListsOfClausesOfTwoVariables(t *testing.T) {
	for vars := range 3 {
		list := allClauses(vars)
		for bits := range 1 << len(list) {
			p := of(vars)
			for i, c := range list {
				if bits>>i&1 == 1 {
					p.l = append(p.l, c)
				}
			}
			small(t, p)
			wants(t, p)
		}
	}
}

func TestAllShortListsOfClausesOfThreeVariables(t *testing.T) {
	list := allClauses(3)
	if len(list) != 27 {
		t.Fatalf("%d clauses", len(list))
	}
	for _, a := range list {
		for _, b := range list {
			for _, c := range list {
				small(t, of(3, a, b, c))
			}
		}
	}
}

func TestFewVariablesAsCounted(t *testing.T) {
	t.Parallel()
	r := rand.New(rand.NewSource(6))
	sat := [9]int{}
	unsat := [9]int{}
	ask := func(p problem) {
		small(t, p)
		if n, _ := cnf.Count(p.vars, p.l); n > 0 {
			sat[p.vars]++
		} else {
			unsat[p.vars]++
		}
	}
	for vars := 1; vars <= 8; vars++ {
		for range 400 {
			ask(threes(r, vars))
			ask(anyClauses(r, vars, r.Intn(6*vars), 1+r.Intn(5)))
			size := 1 + r.Intn(vars)
			// As many as near which none is left, whatever the size.
			ask(wide(r, vars, 1+r.Intn(vars<<size), size))
		}
		if sat[vars] < 100 || unsat[vars] < 100 {
			t.Errorf("%d variables: %d are Sat, %d Unsat", vars, sat[vars], unsat[vars])
		}
	}
}

func TestAllButSomeListsOfTruths(t *testing.T) {
	t.Parallel()
	r := rand.New(rand.NewSource(7))
	for vars := 1; vars <= 8; vars++ {
		small(t, whole(vars))
		for range 20 {
			small(t, whole(vars).mixed(r))
			small(t, whole(vars).without(r.Intn(1<<vars)).mixed(r))
		}
		// Exclusive ors of all, of two that contradict one another.
		var every []int
		for v := range vars {
			every = append(every, v)
		}
		small(t, of(vars, slices.Concat(odd(true, every...), odd(false, every...))...))
		small(t, of(vars, odd(true, every...)...))
	}
}

func TestMoreVariablesAsCounted(t *testing.T) {
	t.Parallel()
	r := rand.New(rand.NewSource(8))
	for vars := 9; vars <= api.MaxBrute; vars++ {
		for range 40 {
			isAsCounted(t, threes(r, vars), plenty)
			isAsCounted(t, anyClauses(r, vars, r.Intn(6*vars), 1+r.Intn(5)), plenty)
			isAsCounted(t, wide(r, vars, r.Intn(24*vars), 5), plenty)
		}
	}
}

// Larger ones, and T8.

func TestThreeLiteralsAClause(t *testing.T) {
	t.Parallel()
	r := rand.New(rand.NewSource(9))
	count := [3]int{}
	for vars := 20; vars <= 100; vars += 4 {
		for range 6 {
			p := threes(r, vars)
			count[solved(t, p, plenty).Status]++
		}
	}
	if count[api.Sat] < 30 || count[api.Unsat] < 30 {
		t.Errorf("%d are Sat, %d Unsat", count[api.Sat], count[api.Unsat])
	}
}

func TestHoles(t *testing.T) {
	t.Parallel()
	for n := 1; n <= 6; n++ {
		is(t, holes(n+1, n), api.Unsat)
		is(t, holes(n, n), api.Sat)
		is(t, holes(n, n+1), api.Sat)
	}
}

func TestChains(t *testing.T) {
	r := rand.New(rand.NewSource(10))
	for _, vars := range []int{2, 3, 10, 63, 64, 65, 1000, 5000} {
		p, last := chain(vars), 2*(vars-1)
		for _, c := range []problem{p, p.mixed(r)} {
			is(t, c, api.Sat)
			if m := is(t, c.with([]int{0}), api.Sat).Model; slices.Contains(m, false) {
				t.Errorf("%v: not all of %v", c, m)
			}
			if m := is(t, c.with([]int{last + 1}), api.Sat).Model; slices.Contains(m, true) {
				t.Errorf("%v: some of %v", c, m)
			}
			is(t, c.with([]int{0}, []int{last + 1}), api.Unsat)
			// A chain that comes back to its beginning: all are alike.
			m := is(t, c.with([]int{last + 1, 0}, []int{2, 0}), api.Sat).Model
			if slices.Contains(m, true) && slices.Contains(m, false) {
				t.Errorf("%v: not all alike: %v", c, m)
			}
			is(t, c.with([]int{last + 1, 0}, []int{0, 2}, []int{1, 3}), api.Unsat)
		}
	}
}

func TestExclusiveOrs(t *testing.T) {
	r := rand.New(rand.NewSource(11))
	for _, vars := range []int{2, 3, 9, 40, 200} {
		// A ring, in which an odd number of neighbours differ, or an even one.
		for _, differ := range []int{0, 1, 2, vars - 1, vars} {
			p := problem{name: fmt.Sprintf("ring, %d differ", differ), vars: vars}
			for v := range vars {
				p.l = append(p.l, odd(v < differ, v, (v+1)%vars)...)
			}
			want := api.Sat
			if differ%2 == 1 {
				want = api.Unsat
			}
			is(t, p.mixed(r), want)
		}
	}
	for range 6 {
		knots := r.Perm(9)
		is(t, sums(3, 3, knots[0]).mixed(r), api.Unsat)
		is(t, sums(3, 3, knots[:2]...).mixed(r), api.Sat)
		is(t, sums(3, 3, knots[:3]...).mixed(r), api.Unsat)
		is(t, sums(5, 4, knots[:4]...).mixed(r), api.Sat)
	}
}

func TestProducts(t *testing.T) {
	for n := 2; n < 200; n++ {
		want := api.Unsat
		for a := 2; a < 16; a++ {
			if n%a == 0 && n/a > 1 && n/a < 16 {
				want = api.Sat
			}
		}
		is(t, product(4, n), want)
	}
}

func TestUnsatStaysSoWithMoreClauses(t *testing.T) {
	r := rand.New(rand.NewSource(12))
	for range 300 {
		vars := 3 + r.Intn(40)
		p := wide(r, vars, 5*vars, 3)
		a := solved(t, p, plenty)
		if a.Status != api.Unsat {
			continue
		}
		q := p.with(anyClauses(r, vars, 1+r.Intn(10), 4).l...)
		is(t, q, api.Unsat)
		// Its proof is one of these too.
		if !rup.Refutes(q.l, a.Proof) {
			t.Errorf("%v: the proof with less does not refute", q)
		}
	}
	for _, p := range []problem{four(), holes(5, 4), sums(3, 3, 2)} {
		is(t, p.with(anyClauses(r, p.vars, 30, 5).l...), api.Unsat)
	}
}

func TestSatStaysSoWithLessClauses(t *testing.T) {
	r := rand.New(rand.NewSource(13))
	for range 60 {
		vars := 3 + r.Intn(40)
		p := threes(r, vars)
		if solved(t, p, plenty).Status != api.Sat {
			continue
		}
		for len(p.l) > 0 {
			for range min(len(p.l), 1+vars/8) {
				p = p.without(r.Intn(len(p.l)))
			}
			p.name = "less"
			is(t, p, api.Sat)
		}
	}
}

// What a model says, laid beside the clauses, is Sat; what it does not say of
// one variable that all others tell is Unsat.
func TestModelsLaidBesideTheClauses(t *testing.T) {
	r := rand.New(rand.NewSource(14))
	for range 60 {
		p := threes(r, 5+r.Intn(40))
		a := solved(t, p, plenty)
		if a.Status != api.Sat {
			continue
		}
		var not []int
		for v, truth := range a.Model {
			l, _ := lit.Make(v, !truth)
			p.l = append(p.l, []int{l})
			not = append(not, lit.Not(l))
		}
		if b := is(t, p, api.Sat); !slices.Equal(a.Model, b.Model) || b.Conflicts != 0 {
			t.Errorf("%v: another model, or %d conflicts", p, b.Conflicts)
		}
		is(t, p.with(not), api.Unsat)
	}
}

// The limits.

func TestMaxVars(t *testing.T) {
	const last = 2 * (api.MaxVars - 1)
	r := is(t, of(api.MaxVars, []int{last}), api.Sat)
	if !r.Model[api.MaxVars-1] {
		t.Error("the last variable is false")
	}
	if r = is(t, of(api.MaxVars, []int{last + 1}, []int{0, last}), api.Sat); !r.Model[0] {
		t.Error("the first variable is false")
	}
	is(t, of(api.MaxVars, []int{last}, []int{last + 1}), api.Unsat)
	is(t, of(api.MaxVars, []int{0, last}, []int{0, last + 1}, []int{1, last}, []int{1, last + 1}), api.Unsat)
}

func TestMaxVarsInAChain(t *testing.T) {
	t.Parallel()
	p := chain(api.MaxVars)
	is(t, p, api.Sat)
	if r := is(t, p.with([]int{0}), api.Sat); slices.Contains(r.Model, false) {
		t.Error("not all are true")
	}
	// All that follows from the last variable fails with the first.
	if r := is(t, p.with([]int{1, 2*api.MaxVars - 1}), api.Sat); r.Model[0] {
		t.Error("the first is true")
	}
	x := 2 * (api.MaxVars - 1)
	q := chain(api.MaxVars - 2)
	q.vars = api.MaxVars
	end := 2 * (api.MaxVars - 3)
	is(t, q.with([]int{1, end + 1}, []int{0, x}, []int{0, x + 1}), api.Unsat)
}

func TestMaxClauses(t *testing.T) {
	t.Parallel()
	p := of(3, slices.Repeat([][]int{{0, 2}}, api.MaxClauses)...)
	p.l[0] = []int{1, 4}
	p.l[api.MaxClauses/2] = []int{3}
	if r := is(t, p, api.Sat); !slices.Equal(r.Model, []bool{true, false, true}) {
		t.Errorf("model %v", r.Model)
	}
	p.l[api.MaxClauses-1] = []int{1, 5, 2}
	if r := is(t, p, api.Unsat); r.Conflicts != 0 {
		t.Errorf("%d conflicts", r.Conflicts)
	}
}

func TestLongClauses(t *testing.T) {
	var c, not []int
	p := of(20000)
	for v := range p.vars {
		c = append(c, 2*v)
		not = append(not, 2*v+1)
		if v%2 == 1 {
			p.l = append(p.l, []int{2*v + 1})
		}
	}
	is(t, p.with(c, not), api.Sat)
	for v := 2; v < p.vars; v += 2 {
		p.l = append(p.l, []int{2*v + 1})
	}
	if r := is(t, p.with(c), api.Sat); !r.Model[0] {
		t.Error("the first is false")
	}
	is(t, p.with(c, []int{1}), api.Unsat)
}

// What is handed in, and what is handed out.

func TestWhatIsHandedInStaysAsItIs(t *testing.T) {
	r := rand.New(rand.NewSource(15))
	list := append(hard()[:10], four(), of(0, nil), of(2, nil, []int{0, 0, 1}), of(1, []int{5}), of(1, []int{0}, []int{-1, 0}))
	for range 200 {
		list = append(list, anyClauses(r, 1+r.Intn(9), r.Intn(40), 4), threes(r, 1+r.Intn(40)))
	}
	for _, p := range list {
		// The lists have room behind them, which is not written to either.
		var l [][]int
		var rooms [][]int
		for _, c := range append(copied(p.l), []int{7}) {
			room := append(slices.Clone(c), -77, -78)
			rooms = append(rooms, room)
			l = append(l, room[:len(c)])
		}
		was := copied(rooms)
		for _, budget := range []int{-1, 0, 2, plenty} {
			Solve(p.vars, l[:len(p.l)], budget)
		}
		for i, room := range rooms {
			if !slices.Equal(room, was[i]) || len(l[i]) != len(room)-2 || &l[i][:1][0] != &room[0] {
				t.Fatalf("%v: the list at %d is %v now, was %v", p, i, room, was[i])
			}
		}
	}
}

func TestWhatIsHandedOutIsNewMemory(t *testing.T) {
	for _, p := range []problem{holes(5, 4), whole(5), sums(3, 3, 1), four()} {
		p.l = copied(p.l)
		was := copied(p.l)
		r := is(t, p, api.Unsat)
		proof := copied(r.Proof)
		for _, c := range p.l {
			clear(c)
		}
		for i := range proof {
			if !slices.Equal(proof[i], r.Proof[i]) {
				t.Fatalf("%v: a clause of the proof changes with those that were handed in", p)
			}
		}
		p.l = copied(was)
		r = is(t, p, api.Unsat)
		for i, c := range r.Proof {
			// A clause of the proof that is written to changes no other.
			for k := range c {
				c[k] = -1
			}
			for k, d := range r.Proof[i+1:] {
				if !slices.Equal(d, proof[i+1+k]) {
					t.Fatalf("%v: two clauses of the proof share memory", p)
				}
			}
		}
	}
}

func TestCallsAtTheSameTime(t *testing.T) {
	r := rand.New(rand.NewSource(16))
	list := append(hard(), four(), of(4), product(6, 53*61))
	for range 30 {
		list = append(list, threes(r, 40))
	}
	want := make([]api.Result, len(list))
	for i, p := range list {
		want[i], _ = Solve(p.vars, p.l, plenty)
	}
	var wait sync.WaitGroup
	for range 4 {
		own := make([][][]int, len(list))
		for i, p := range list {
			own[i] = copied(p.l)
		}
		wait.Go(func() {
			for i, p := range list {
				if got, e := Solve(p.vars, own[i], plenty); e != api.OK || !same(got, want[i]) {
					t.Errorf("%v: another result beside other calls", p)
				}
			}
		})
	}
	wait.Wait()
}
