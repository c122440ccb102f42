package cnf

import (
	"fmt"
	"math"
	"slices"
	"testing"

	"breakwater/api"
)

// wrongVars are numbers of variables that nothing has.
var wrongVars = []int{-1, -2, math.MinInt + 1, math.MinInt, api.MaxVars + 1, api.MaxVars + 2, math.MaxInt - 1, math.MaxInt}

// wrongLits tells numbers that are no literals of so many variables: below 0,
// and of a variable that is vars or more.
func wrongLits(vars int) []int {
	return []int{
		-1, -2, -2 * api.MaxVars, math.MinInt + 1, math.MinInt,
		2 * vars, 2*vars + 1, 2*vars + 2, 2 * api.MaxVars, 2*api.MaxVars + 1, math.MaxInt - 1, math.MaxInt,
	}
}

// spoiled tells clauses l with x put in at the first, a middle and the last
// place of the first, a middle and the last clause.
func spoiled(l [][]int, x int) [][][]int {
	var all [][][]int
	for _, i := range []int{0, len(l) / 2, len(l) - 1} {
		for _, j := range []int{0, len(l[i]) / 2, len(l[i])} {
			bad := slices.Clone(l)
			bad[i] = slices.Insert(slices.Clone(l[i]), j, x)
			all = append(all, bad)
		}
	}
	return all
}

// many tells n times clause c, each the same list.
func many(n int, c []int) [][]int { return slices.Repeat([][]int{c}, n) }

// clauses tells all lists of up to n numbers of 0 to top - 1.
func clauses(n, top int) [][]int {
	all := [][]int{nil}
	for from := 0; n > 0; n-- {
		till := len(all)
		for _, l := range all[from:till] {
			for x := range top {
				all = append(all, append(slices.Clone(l), x))
			}
		}
		from = till
	}
	return all
}

// samples calls do with many clauses of so many variables: all pairs and, of
// short clauses, all threes.
func samples(vars int, do func(l [][]int)) {
	do(nil)
	all := clauses(3, 2*vars)
	for _, a := range all {
		do([][]int{a})
		for _, b := range all {
			do([][]int{a, b})
		}
	}
	short := clauses(2, 2*vars)
	for _, a := range short {
		for _, b := range short {
			for _, c := range short {
				do([][]int{a, b, c})
			}
		}
	}
}

// plainHolds tells the first clause that does not hold, by the words of the
// chapters 2 to 4.
func plainHolds(l [][]int, m []bool) int {
	for i, c := range l {
		holds := false
		for _, x := range c {
			if x >= 0 && (x/2 < len(m) && m[x/2]) == (x%2 == 0) {
				holds = true
			}
		}
		if !holds {
			return i
		}
	}
	return -1
}

// listOf tells bits as a list of truths.
func listOf(vars, bits int) []bool {
	var m []bool
	for range vars {
		m = append(m, bits%2 == 1)
		bits /= 2
	}
	return m
}

// plainModels tells the lists of truths in which all clauses hold, by going
// over all lists.
func plainModels(vars int, l [][]int) [][]bool {
	var all [][]bool
	for bits := range 1 << vars {
		if m := listOf(vars, bits); plainHolds(l, m) == -1 {
			all = append(all, m)
		}
	}
	return all
}

// isCount and isFirst fail if a call does not answer what is wanted; beside
// an error, or where there is no list, all else must be zero.
func isCount(t *testing.T, vars int, l [][]int, want int, wantErr api.Errno) {
	t.Helper()
	if n, e := Count(vars, l); n != want || e != wantErr {
		t.Errorf("Count(%d, %s) = %d, %d, want %d, %d", vars, brief(l), n, e, want, wantErr)
	}
}

func isFirst(t *testing.T, vars int, l [][]int, want []bool, ok bool, wantErr api.Errno) {
	t.Helper()
	if m, is, e := First(vars, l); !slices.Equal(m, want) || is != ok || e != wantErr {
		t.Errorf("First(%d, %s) = %v, %v, %d, want %v, %v, %d", vars, brief(l), m, is, e, want, ok, wantErr)
	}
}

func isCheck(t *testing.T, vars int, l [][]int, want api.Errno) {
	t.Helper()
	if e := Check(vars, l); e != want {
		t.Errorf("Check(%d, %s) = %d, want %d", vars, brief(l), e, want)
	}
}

func isHolds(t *testing.T, l [][]int, m []bool, want int) {
	t.Helper()
	if i := Holds(l, m); i != want {
		t.Errorf("Holds(%s, %v) = %d, want %d", brief(l), m, i, want)
	}
}

// isError fails if one of the three calls that can fail does not tell e, or
// tells anything beside it.
func isError(t *testing.T, vars int, l [][]int, e api.Errno) {
	t.Helper()
	isCheck(t, vars, l, e)
	isCount(t, vars, l, 0, e)
	isFirst(t, vars, l, nil, false, e)
}

// isModels fails if Count and First do not answer as all lists of truths say.
func isModels(t *testing.T, vars int, l [][]int) {
	t.Helper()
	all := plainModels(vars, l)
	isCount(t, vars, l, len(all), api.OK)
	if len(all) == 0 {
		isFirst(t, vars, l, nil, false, api.OK)
	} else {
		isFirst(t, vars, l, all[0], true, api.OK)
	}
}

// brief keeps what a failing test tells short.
func brief(l [][]int) string {
	if len(l) > 12 {
		return fmt.Sprintf("%d clauses", len(l))
	}
	return fmt.Sprint(l)
}

// Promise 4.1: Check.

func TestCheck(t *testing.T) {
	for _, c := range []struct {
		vars int
		l    [][]int
		want api.Errno
	}{
		// No clauses, and no list at all.
		{0, nil, api.OK},
		{0, [][]int{}, api.OK},
		{1, nil, api.OK},
		{5, [][]int{}, api.OK},
		{api.MaxVars, nil, api.OK},
		// An empty clause, alone, first, in the middle and last.
		{0, [][]int{{}}, api.OK},
		{0, [][]int{nil, {}, nil}, api.OK},
		{2, [][]int{{}, {0}, {3}}, api.OK},
		{2, [][]int{{0}, nil, {3}}, api.OK},
		{2, [][]int{{0}, {3}, {}}, api.OK},
		// What is there several times, and a literal and its Not.
		{2, [][]int{{0, 3}, {0, 3}, {0, 3}}, api.OK},
		{2, [][]int{{2, 2, 2}}, api.OK},
		{2, [][]int{{2, 3}, {1, 0}}, api.OK},
		// The last variable, and the one behind it.
		{0, [][]int{{0}}, api.ErrVar},
		{0, [][]int{{1}}, api.ErrVar},
		{1, [][]int{{0}, {1}}, api.OK},
		{1, [][]int{{2}}, api.ErrVar},
		{1, [][]int{{3}}, api.ErrVar},
		{3, [][]int{{4, 5}}, api.OK},
		{3, [][]int{{6}}, api.ErrVar},
		{3, [][]int{{7}}, api.ErrVar},
		{17, [][]int{{32}, {33}}, api.OK},
		{api.MaxVars, [][]int{{2*api.MaxVars - 2}, {2*api.MaxVars - 1}}, api.OK},
		{api.MaxVars, [][]int{{2 * api.MaxVars}}, api.ErrVar},
		{api.MaxVars, [][]int{{2*api.MaxVars + 1}}, api.ErrVar},
		{api.MaxVars - 1, [][]int{{2*api.MaxVars - 2}}, api.ErrVar},
	} {
		isCheck(t, c.vars, c.l, c.want)
	}
}

func TestCheckVars(t *testing.T) {
	for _, vars := range wrongVars {
		for _, l := range [][][]int{nil, {}, {{}}, {{0}}, {{0}, {-1}}} {
			isError(t, vars, l, api.ErrVar)
		}
	}
}

func TestCheckClauses(t *testing.T) {
	for _, vars := range []int{1, api.MaxBrute, api.MaxBrute + 1, api.MaxVars} {
		isCheck(t, vars, many(api.MaxClauses, []int{0}), api.OK)
		isCheck(t, vars, many(api.MaxClauses+1, []int{0}), api.ErrLimit)
	}
	isCheck(t, 0, many(api.MaxClauses, nil), api.OK)
	isError(t, 0, many(api.MaxClauses+1, nil), api.ErrLimit)
	isError(t, 1, many(api.MaxClauses+1, []int{0}), api.ErrLimit)
	isError(t, api.MaxBrute, many(api.MaxClauses+1, []int{0}), api.ErrLimit)
	isError(t, api.MaxBrute+1, many(api.MaxClauses+1, []int{0}), api.ErrLimit)
}

func TestCheckLiterals(t *testing.T) {
	good := [][]int{{0, 1, 3}, {2, 0}, {}, {3, 1, 2}, {1, 2, 3, 0}}
	for _, vars := range []int{2, 5, api.MaxBrute, api.MaxBrute + 1, api.MaxVars} {
		isCheck(t, vars, good, api.OK)
		for _, x := range wrongLits(vars) {
			for _, l := range spoiled(good, x) {
				isError(t, vars, l, api.ErrVar)
			}
			isError(t, vars, [][]int{{x}}, api.ErrVar)
			isError(t, vars, [][]int{nil, {x}}, api.ErrVar)
		}
	}
	// The only wrong one is the last literal of the last of all clauses.
	l := many(api.MaxClauses, []int{0, 1})
	l[len(l)-1] = []int{0, 1, 2}
	isError(t, 1, l, api.ErrVar)
}

// Several errors at once: the variables' number first, then how many clauses
// there are, then the literals, and then whether the lists are too many.
func TestErrorsInOrder(t *testing.T) {
	tooMany := many(api.MaxClauses+1, []int{0})
	tooManyWrong := many(api.MaxClauses+1, []int{-1})
	for _, vars := range wrongVars {
		isError(t, vars, tooMany, api.ErrVar)
		isError(t, vars, tooManyWrong, api.ErrVar)
	}
	for _, vars := range []int{0, 1, api.MaxBrute, api.MaxBrute + 1, api.MaxVars} {
		isError(t, vars, tooManyWrong, api.ErrLimit)
	}
	for _, vars := range []int{api.MaxBrute + 1, api.MaxVars} {
		for _, x := range wrongLits(vars) {
			isError(t, vars, [][]int{{0}, {1, x}}, api.ErrVar)
		}
	}
}

// Promise 4.1: Holds.

func TestHolds(t *testing.T) {
	tf := []bool{true, false}
	for _, c := range []struct {
		l    [][]int
		m    []bool
		want int
	}{
		{nil, nil, -1},
		{[][]int{}, []bool{}, -1},
		{nil, tf, -1},
		// An empty clause, alone, first, in the middle and last.
		{[][]int{{}}, nil, 0},
		{[][]int{nil}, tf, 0},
		{[][]int{{}, {0}, {3}}, tf, 0},
		{[][]int{{0}, {}, {3}}, tf, 1},
		{[][]int{{0}, {3}, {}}, tf, 2},
		// The first, a middle and the last one that does not hold; several.
		{[][]int{{0}, {3}, {0, 3}}, tf, -1},
		{[][]int{{1}, {3}, {0, 3}}, tf, 0},
		{[][]int{{0}, {2}, {0, 3}}, tf, 1},
		{[][]int{{0}, {3}, {1, 2}}, tf, 2},
		{[][]int{{0}, {1}, {3}, {2}, {}}, tf, 1},
		{[][]int{{1}, {1}, {1}}, tf, 0},
		{[][]int{{0}, {0}, {2}, {2}}, tf, 2},
		// The literal that holds is first, in the middle and last.
		{[][]int{{0, 1, 2}, {1, 0, 2}, {1, 2, 0}}, tf, -1},
		{[][]int{{1, 1, 2, 2}}, tf, 0},
		{[][]int{{0, 0, 0}, {2, 3}, {3, 2}, {1, 0}}, tf, -1},
		// Truths that are not there are false.
		{[][]int{{0}}, nil, 0},
		{[][]int{{1}}, nil, -1},
		{[][]int{{0}, {5}, {4}}, tf, 2},
		{[][]int{{0}, {5}, {5, 4}}, tf, -1},
		{[][]int{{2*api.MaxVars - 1}, {2*api.MaxVars - 2}}, tf, 1},
		{[][]int{{math.MaxInt}, {math.MaxInt - 1}}, tf, 1},
		// Truths that no clause asks for.
		{[][]int{{0}, {3}}, []bool{true, false, true, false, true}, -1},
		{[][]int{{0}, {2}}, []bool{true, false, true, false, true}, 1},
		// Numbers that are no literals do not hold.
		{[][]int{{-1}}, tf, 0},
		{[][]int{{0}, {-2, math.MinInt, -1}, {3}}, tf, 1},
		{[][]int{{-1, 0}, {3, math.MinInt}}, tf, -1},
	} {
		isHolds(t, c.l, c.m, c.want)
	}
}

func TestHoldsEverywhere(t *testing.T) {
	// Lists of truths shorter than, as long as, and longer than the variables.
	for size := range 4 {
		for bits := range 1 << size {
			m := listOf(size, bits)
			samples(2, func(l [][]int) { isHolds(t, l, m, plainHolds(l, m)) })
		}
	}
}

// Holds asks no limits.
func TestHoldsMany(t *testing.T) {
	l := many(api.MaxClauses+2, []int{1, 0})
	isHolds(t, l, nil, -1)
	l[len(l)-1] = []int{0}
	isHolds(t, l, nil, len(l)-1)
	isHolds(t, l, []bool{true}, -1)
}

// Promise 4.2: Count and First.

func TestModels(t *testing.T) {
	for _, c := range []struct {
		vars  int
		l     [][]int
		count int
		first []bool
	}{
		// The chapter's example.
		{2, [][]int{{0, 2}}, 3, []bool{true, false}},
		// No clauses, and no list at all.
		{0, nil, 1, nil},
		{0, [][]int{}, 1, nil},
		{1, nil, 2, []bool{false}},
		{3, [][]int{}, 8, []bool{false, false, false}},
		// One variable.
		{1, [][]int{{0}}, 1, []bool{true}},
		{1, [][]int{{1}}, 1, []bool{false}},
		{1, [][]int{{1, 0}}, 2, []bool{false}},
		{1, [][]int{{0, 0}, {0}}, 1, []bool{true}},
		// Clauses that all lists let hold, that several do, and that one does.
		{2, [][]int{{0, 1}, {3, 0, 2}}, 4, []bool{false, false}},
		{2, [][]int{{0, 3}, {1, 2}}, 2, []bool{false, false}},
		{2, [][]int{{0, 2}, {1, 3}}, 2, []bool{true, false}},
		{2, [][]int{{3, 1}, {2}, {2, 0}}, 1, []bool{false, true}},
		{3, [][]int{{0}, {2}, {4}}, 1, []bool{true, true, true}},
		{3, [][]int{{1}, {2}, {5}}, 1, []bool{false, true, false}},
		// The least one where the highest variable must be true, too.
		{3, [][]int{{4}}, 4, []bool{false, false, true}},
		{3, [][]int{{4}, {0, 2}}, 3, []bool{true, false, true}},
		{3, [][]int{{4}, {0, 2}, {1, 5}}, 1, []bool{false, true, true}},
		{4, [][]int{{6}, {3, 1}, {2, 0}, {1}}, 2, []bool{false, true, false, true}},
		// The same clause, and the same literal, several times.
		{2, [][]int{{0, 2}, {2, 0}, {0, 2}, {2, 2, 0, 0}}, 3, []bool{true, false}},
	} {
		isCount(t, c.vars, c.l, c.count, api.OK)
		isFirst(t, c.vars, c.l, c.first, true, api.OK)
	}
}

func TestNoModel(t *testing.T) {
	for _, c := range []struct {
		vars int
		l    [][]int
	}{
		{0, [][]int{{}}},
		{0, [][]int{nil, nil}},
		{1, [][]int{{}}},
		{1, [][]int{{0}, {1}}},
		{1, [][]int{{1, 1}, {0, 0}}},
		{2, [][]int{{}, {0}, {3}}},
		{2, [][]int{{0}, {}, {3}}},
		{2, [][]int{{0}, {3}, {}}},
		{2, [][]int{{0, 1}, {}}},
		{2, [][]int{{0, 2}, {0, 3}, {1, 2}, {1, 3}}},
		{3, [][]int{{4}, {1, 5}, {0, 2}, {3}}},
		{api.MaxBrute, [][]int{{}}},
		{api.MaxBrute, [][]int{{30}, {31}}},
	} {
		isCount(t, c.vars, c.l, 0, api.OK)
		isFirst(t, c.vars, c.l, nil, false, api.OK)
	}
}

func TestModelsEverywhere(t *testing.T) {
	for vars := range 4 {
		samples(min(vars, 2), func(l [][]int) { isModels(t, vars, l) })
	}
	all := clauses(2, 6)
	for _, a := range all {
		for _, b := range all {
			isModels(t, 3, [][]int{a, b})
			isModels(t, 3, [][]int{{4, 1}, a, {0, 3, 5}, b, {2, 5}})
		}
	}
}

// single tells clauses that just one list of truths lets hold: bits.
func single(vars, bits int) [][]int {
	var l [][]int
	for v, is := range listOf(vars, bits) {
		if is {
			l = append(l, []int{2 * v})
		} else {
			l = append(l, []int{2*v + 1})
		}
	}
	return l
}

func TestModelsOfMostVariables(t *testing.T) {
	const vars, size = api.MaxBrute, 1 << api.MaxBrute
	last := 2 * (vars - 1)
	isCount(t, vars, nil, size, api.OK)
	isFirst(t, vars, nil, listOf(vars, 0), true, api.OK)
	isCount(t, vars, [][]int{{last}}, size/2, api.OK)
	isFirst(t, vars, [][]int{{last}}, listOf(vars, size/2), true, api.OK)
	isCount(t, vars, [][]int{{last + 1}}, size/2, api.OK)
	isFirst(t, vars, [][]int{{last, 0}, {last, 1}}, listOf(vars, size/2), true, api.OK)
	for _, bits := range []int{0, 1, size / 2, size/2 + 1, 0x5a3c, size - 1} {
		isCount(t, vars, single(vars, bits), 1, api.OK)
		isFirst(t, vars, single(vars, bits), listOf(vars, bits), true, api.OK)
	}
	isModels(t, vars, [][]int{{0, 2, 4}, {1, 30, 9}, {31, 3}, {5, 17, 12}, {28, 29}, {20, 11, 0}})
}

func TestModelsOfTooManyVariables(t *testing.T) {
	for _, vars := range []int{api.MaxBrute + 1, api.MaxBrute + 2, 64, api.MaxVars - 1, api.MaxVars} {
		for _, l := range [][][]int{nil, {}, {{}}, {{0, 2}}, {{0}, {1}}, {{2*vars - 1}}} {
			isCheck(t, vars, l, api.OK)
			isCount(t, vars, l, 0, api.ErrLimit)
			isFirst(t, vars, l, nil, false, api.ErrLimit)
		}
	}
}

// As many clauses as there may be, of as many variables: they must end soon.
func TestModelsOfMostClauses(t *testing.T) {
	const vars = api.MaxBrute
	half := listOf(vars, 1<<(vars-1))
	for _, c := range [][]int{{30}, {30, 30}, {30, 30, 30}} {
		l := many(api.MaxClauses, c)
		isCount(t, vars, l, 1<<(vars-1), api.OK)
		isFirst(t, vars, l, half, true, api.OK)
	}
	isCount(t, vars, many(api.MaxClauses, []int{0, 1}), 1<<vars, api.OK)
	isCount(t, 1, many(api.MaxClauses, []int{0}), 1, api.OK)
	isFirst(t, 1, many(api.MaxClauses, []int{0}), []bool{true}, true, api.OK)
	isCount(t, 0, many(api.MaxClauses, nil), 0, api.OK)

	// Clauses that are all different: each has variable 15, and of the others
	// what the digits of its number say.
	l := make([][]int, api.MaxClauses)
	for i := range l {
		l[i] = []int{30}
		for v, digits := 0, i; digits > 0; v, digits = v+1, digits/3 {
			if digits%3 > 0 {
				l[i] = append(l[i], 2*v+digits%3-1)
			}
		}
	}
	isCount(t, vars, l, 1<<(vars-1), api.OK)
	isFirst(t, vars, l, half, true, api.OK)
	isModels(t, vars, l[api.MaxClauses-100:])
}

// What is handed in is not changed (R4), and what is told is new memory.

func TestNothingChanged(t *testing.T) {
	// All clauses are pieces of one memory, two are the same list, and there is
	// spare room behind each, and behind the list of them.
	memory := []int{4, 0, 3, 3, 1, 2, -91, -92}
	same := memory[0:3]
	all := [][]int{same, memory[2:5], same, memory[3:6], {7}, {8}}
	l := all[:4]
	truth := []bool{true, true, true, true, false}
	m := truth[:3]
	memoryBefore, truthBefore := slices.Clone(memory), slices.Clone(truth)
	isCheck(t, 3, l, api.OK)
	isHolds(t, l, m, 1)
	isModels(t, 3, l)
	isError(t, 2, l, api.ErrVar)
	isCount(t, api.MaxBrute+1, l, 0, api.ErrLimit)
	isFirst(t, api.MaxBrute+1, l, nil, false, api.ErrLimit)
	if !slices.Equal(memory, memoryBefore) || !slices.Equal(truth, truthBefore) {
		t.Errorf("the literals became %v, the truths %v", memory, truth)
	}
	want := [][]int{{4, 0, 3}, {3, 3, 1}, {4, 0, 3}, {3, 1, 2}, {7}, {8}}
	if !slices.EqualFunc(all, want, slices.Equal) {
		t.Errorf("the clauses became %v", all)
	}
	if &all[0][0] != &memory[0] || &all[2][0] != &memory[0] || &all[3][0] != &memory[3] {
		t.Errorf("a clause is another list")
	}
}

func TestFirstIsNewMemory(t *testing.T) {
	l := [][]int{{2}, {1, 4}}
	a, _, _ := First(3, l)
	b, _, _ := First(3, l)
	for i := range a[:cap(a)] {
		a[:cap(a)][i] = !a[:cap(a)][i]
	}
	if want := []bool{false, true, false}; !slices.Equal(b, want) {
		t.Errorf("written to one answer, another became %v", b)
	}
	isFirst(t, 3, l, []bool{false, true, false}, true, api.OK)
}
