package rup

import (
	"math"
	"slices"
	"testing"

	"breakwater/api"
)

// wrong are numbers of no literal, near 0 and far off.
var wrong = []int{-1, -2, -3, -2 * api.MaxVars, math.MinInt32, math.MinInt + 1, math.MinInt}

// four are clauses of two variables that hold nowhere all together.
func four() [][]int { return [][]int{{0, 2}, {0, 3}, {1, 2}, {1, 3}} }

// eight are clauses of three variables that hold nowhere all together.
func eight() [][]int {
	return [][]int{{0, 2, 4}, {0, 2, 5}, {0, 3, 4}, {0, 3, 5}, {1, 2, 4}, {1, 2, 5}, {1, 3, 4}, {1, 3, 5}}
}

// stepEdge is a call of Step and what the chapter asks of it.
type stepEdge struct {
	name string
	l    [][]int
	c    []int
	want bool
}

func areSteps(t *testing.T, edges []stepEdge) {
	t.Helper()
	for _, e := range edges {
		t.Run(e.name, func(t *testing.T) { isStep(t, e.l, e.c, e.want) })
	}
}

func isStep(t *testing.T, l [][]int, c []int, want bool) {
	t.Helper()
	for range 2 {
		if got := Step(l, c); got != want {
			t.Fatalf("Step(%v, %v) = %v", l, c, got)
		}
	}
}

// proofEdge is a proof, the place that Check is to tell of it, and what
// Refutes is to.
type proofEdge struct {
	name    string
	l       [][]int
	proof   [][]int
	place   int
	refutes bool
}

func areProofs(t *testing.T, edges []proofEdge) {
	t.Helper()
	for _, e := range edges {
		t.Run(e.name, func(t *testing.T) { isProof(t, e.l, e.proof, e.place, e.refutes) })
	}
}

func isProof(t *testing.T, l, proof [][]int, place int, refutes bool) {
	t.Helper()
	for range 2 {
		if got := Check(l, proof); got != place {
			t.Fatalf("Check(%v, %v) = %d; want %d", l, proof, got, place)
		}
		if got := Refutes(l, proof); got != refutes {
			t.Fatalf("Refutes(%v, %v) = %v", l, proof, got)
		}
	}
}

// plainStep tells Step by the chapters' words: it goes over all clauses until
// nothing more follows from the Nots of c.
func plainStep(l [][]int, c []int) bool {
	holds := map[int]bool{}
	for _, x := range c {
		if x >= 0 {
			holds[x^1] = true
		}
	}
	for grown := true; grown; {
		grown = false
		for _, d := range l {
			may := mayHold(d, holds)
			if len(may) == 0 {
				return true
			}
			if len(may) == 1 && !holds[may[0]] {
				holds[may[0]] = true
				grown = true
			}
		}
	}
	for x := range holds {
		if holds[x^1] {
			return true
		}
	}
	return false
}

// mayHold tells the literals of c, each once, whose Nots do not hold.
func mayHold(c []int, holds map[int]bool) []int {
	var may []int
	for _, x := range c {
		if x >= 0 && !holds[x^1] && !slices.Contains(may, x) {
			may = append(may, x)
		}
	}
	return may
}

// plainProof tells Check and Refutes by the chapter's words.
func plainProof(l, proof [][]int) (int, bool) {
	empty := false
	for i, c := range proof {
		if !plainStep(slices.Concat(l, proof[:i]), c) {
			return i, false
		}
		empty = empty || len(c) == 0
	}
	return -1, empty
}

// lists tells all lists of up to n numbers of from to top - 1, in any order
// and also several times the same.
func lists(n, from, top int) [][]int {
	all := [][]int{nil}
	for done := 0; n > 0; n-- {
		till := len(all)
		for _, l := range all[done:till] {
			for x := from; x < top; x++ {
				all = append(all, append(slices.Clone(l), x))
			}
		}
		done = till
	}
	return all
}

// shortSamples calls do with all l of up to two clauses and all proofs of up
// to two, of up to two literals of one variable, and of no literals.
func shortSamples(do func(l, proof [][]int)) {
	short := lists(2, -1, 2)
	var all [][][]int
	for _, a := range short {
		all = append(all, [][]int{a})
		for _, b := range short {
			all = append(all, [][]int{a, b})
		}
	}
	all = append(all, nil)
	for _, l := range all {
		for _, proof := range all {
			do(l, proof)
		}
	}
}

// longSamples calls do with many clauses and proofs of some variables. A rule
// of its own makes them, so that they are the same each time.
func longSamples(do func(vars int, l, proof [][]int)) {
	state := uint32(7)
	next := func(n int) int {
		state = state*1664525 + 1013904223
		return int(state>>16) % n
	}
	for range 12000 {
		vars := 2 + next(4)
		some := func(clauses, least int) [][]int {
			var l [][]int
			for range clauses {
				var c []int
				for range least + next(3) {
					c = append(c, next(2*vars+1)-1)
				}
				l = append(l, c)
			}
			return l
		}
		do(vars, some(next(6*vars), 2), some(next(5), 0))
	}
}

// Promise 7.1.

func TestExample(t *testing.T) {
	isProof(t, four(), [][]int{{0}, {}}, -1, true)
}

func TestStep(t *testing.T) {
	areSteps(t, []stepEdge{
		{"a clause of one literal", [][]int{{0}}, []int{0}, true},
		{"another literal", [][]int{{0}}, []int{2}, false},
		{"its Not", [][]int{{0}}, []int{1}, false},
		{"what follows from two", [][]int{{0, 2}, {1, 4}}, []int{2, 4}, true},
		{"less than follows from two", [][]int{{0, 2}, {1, 4}}, []int{2}, false},
		{"more than a clause of l", [][]int{{0, 2}}, []int{0, 2, 5}, true},
		{"less than a clause of l", [][]int{{0, 2}}, []int{0}, false},
		{"the literals' Nots", [][]int{{0, 2}}, []int{1, 3}, false},
		{"of four", four(), []int{0}, true},
		{"of four, a negation", four(), []int{3}, true},
	})
}

func TestStepOfNothing(t *testing.T) {
	areSteps(t, []stepEdge{
		{"no lists at all", nil, nil, false},
		{"no clauses, c empty", [][]int{}, []int{}, false},
		{"no list of clauses, c empty", nil, []int{}, false},
		{"no clauses, no c at all", [][]int{}, nil, false},
		{"no list of clauses, a literal", nil, []int{0}, false},
		{"no clauses, literals", [][]int{}, []int{3, 0, 4}, false},
		{"no c at all", four(), nil, false},
		{"c empty", four(), []int{}, false},
		{"no c at all, a clash of one literal each", [][]int{{0}, {1}}, nil, true},
		{"c empty, a clash of one literal each", [][]int{{0}, {1}}, []int{}, true},
		{"c empty, a clash that follows", [][]int{{3, 5}, {3, 4}, {1, 2}, {0}}, []int{}, true},
	})
}

func TestStepOfEmptyClause(t *testing.T) {
	areSteps(t, []stepEdge{
		{"alone, no c at all", [][]int{{}}, nil, true},
		{"no list, c empty", [][]int{nil}, []int{}, true},
		{"alone, a literal", [][]int{{}}, []int{4}, true},
		{"first", [][]int{{}, {0, 2}, {4, 6}}, []int{8}, true},
		{"between", [][]int{{0, 2}, {}, {4, 6}}, []int{8}, true},
		{"last", [][]int{{0, 2}, {4, 6}, nil}, []int{8}, true},
		{"last, no c at all", [][]int{{0, 2}, {4, 6}, {}}, nil, true},
		{"several times", [][]int{{}, {0, 2}, nil, {}}, []int{8, 3}, true},
	})
}

func TestStepOfClauseOfL(t *testing.T) {
	l := [][]int{{0, 2, 4}, {6}, {9, 3, 9}, {8, 1, 0}}
	for _, c := range l {
		isStep(t, l, c, true)
		turned := slices.Clone(c)
		slices.Reverse(turned)
		isStep(t, l, turned, true)
		isStep(t, l, append(turned, 11), true)
	}
}

func TestStepOfClauseThatAlwaysHolds(t *testing.T) {
	areSteps(t, []stepEdge{
		{"alone", nil, []int{0, 1}, true},
		{"turned", [][]int{}, []int{1, 0}, true},
		{"with others of no clause", [][]int{{0, 2}}, []int{8, 6, 10, 7}, true},
		{"apart, and again", [][]int{{0, 2}}, []int{9, 4, 4, 9, 2, 8}, true},
		{"neighbours that are none", nil, []int{1, 2}, false},
		{"in l it tells nothing", [][]int{{0, 1}, {3, 2, 4}}, []int{0}, false},
		{"in l it tells nothing, c empty", [][]int{{0, 1}}, nil, false},
	})
}

func TestStepOfLiteralsInAnyOrder(t *testing.T) {
	areSteps(t, []stepEdge{
		{"again in c", [][]int{{0, 2}}, []int{2, 0, 2, 0, 0}, true},
		{"again in a clause", [][]int{{2, 0, 2, 2, 0}}, []int{0, 2}, true},
		{"again in both", [][]int{{2, 0, 2}, {4, 4}}, []int{2, 2, 0}, true},
		{"again in a clause that is to follow", [][]int{{4, 1, 4}, {5, 6, 5, 6}}, []int{6, 1, 6}, true},
		{"again, and no step", [][]int{{2, 0, 2, 0}}, []int{2, 2, 2}, false},
		{"again, and two are left", [][]int{{6, 4, 2, 6, 4}}, []int{2, 2}, false},
	})
	l := [][]int{{4, 0, 2}, {5, 7, 9}, {6, 1, 8}}
	for _, c := range [][]int{{0, 2, 7, 9}, {9, 7, 2, 0}, {2, 9, 0, 7}, {7, 0, 9, 2}} {
		isStep(t, l, c, true)
		isStep(t, [][]int{l[2], l[1], l[0]}, c, true)
		isStep(t, l, c[1:], false)
	}
}

func TestStepAfterOthersFollowed(t *testing.T) {
	chain := [][]int{{9, 11}, {7, 10}, {5, 8}, {3, 6}, {1, 4}, {1, 2}}
	areSteps(t, []stepEdge{
		{"by a chain that clashes at its end", chain, []int{1}, true},
		{"by a chain without its end", chain[1:], []int{1}, false},
		{"by a chain without its middle", slices.Delete(slices.Clone(chain), 2, 3), []int{1}, false},
		{"by a chain without its beginning", chain[:5], []int{1}, false},
		{"by a chain that clashes, in order", [][]int{{1, 2}, {3, 4}, {5, 6}, {7}}, []int{1}, true},
		{"from clauses of one literal", [][]int{{5, 7}, {3, 4}, {1, 2}, {0}}, []int{7}, true},
		{"by two that follow", [][]int{{3, 5, 6}, {1, 4}, {1, 2}}, []int{1, 6}, true},
		{"by two of which one follows", [][]int{{3, 5, 6}, {1, 4}}, []int{1, 6}, false},
	})
}

func TestClausesThatHoldButHaveNoStep(t *testing.T) {
	areSteps(t, []stepEdge{
		{"the empty clause of four", four(), nil, false},
		{"another variable of four", four(), []int{4}, false},
		{"two of another variable of four", four(), []int{4, 7}, false},
		{"0 of the first four of eight", eight()[:4], []int{0}, false},
		{"0 with a step between", append(eight()[:4], []int{0, 2}), []int{0}, true},
		{"two of the first four of eight", eight()[:4], []int{0, 2}, true},
	})
}

func TestCheckOfNothing(t *testing.T) {
	for _, l := range [][][]int{nil, {}, {{}}, {{0}}, four()} {
		isProof(t, l, nil, -1, false)
		isProof(t, l, [][]int{}, -1, false)
	}
	areProofs(t, []proofEdge{
		{"no list of clauses", nil, [][]int{{0}}, 0, false},
		{"no clauses", [][]int{}, [][]int{{0, 1}, {0}}, 1, false},
		{"no list of clauses, an empty one", nil, [][]int{{}}, 0, false},
		{"no clauses, one that always holds", [][]int{}, [][]int{{0, 1}, {3, 2}}, -1, false},
	})
}

func TestCheckTellsTheFirst(t *testing.T) {
	l := [][]int{{0, 2}, {1, 4}, {3, 6}, {5, 6}}
	areProofs(t, []proofEdge{
		{"none", l, [][]int{{2, 4}, {6}, {0, 6, 9}}, -1, false},
		{"the first of one", l, [][]int{{2}}, 0, false},
		{"the first", l, [][]int{{2}, {2, 4}, {6}}, 0, false},
		{"the middle one", l, [][]int{{2, 4}, {2}, {6}}, 1, false},
		{"the last", l, [][]int{{2, 4}, {6}, {2}}, 2, false},
		{"all", l, [][]int{{2}, {4}, {7}}, 0, false},
		{"the last two", l, [][]int{{6}, {4}, {7}}, 1, false},
		{"the first and the last", l, [][]int{{4}, {6}, {7}}, 0, false},
		{"the second and the fourth", l, [][]int{{6}, {4}, {2, 4}, {7}, {6}}, 1, false},
		{"the same again", l, [][]int{{6}, {6}, {6}, {8}, {8}}, 3, false},
		{"clauses of l", l, l, -1, false},
		{"one that the one behind it is of", l, [][]int{{8}, {8, 10}}, 0, false},
	})
}

func TestCheckByClausesAhead(t *testing.T) {
	areProofs(t, []proofEdge{
		{"another variable by the one ahead", four(), [][]int{{0}, {4}}, -1, false},
		{"and in the other order", four(), [][]int{{4}, {0}}, 0, false},
		{"the first clause has none", four()[:3], [][]int{{0}, {4}}, 1, false},
		{"0 by the one ahead", eight()[:4], [][]int{{0, 2}, {0}}, -1, false},
		{"and in the other order, too", eight()[:4], [][]int{{0}, {0, 2}}, 0, false},
		{"by both ahead", eight(), [][]int{{0, 2}, {0}, {2}, {}}, -1, true},
		{"one after the other", [][]int{{0, 2}, {0, 3}, {1, 4, 6}, {1, 4, 7}, {5, 8, 10}, {5, 8, 11}}, [][]int{{0}, {4}, {8}}, -1, false},
		{"with one left out", [][]int{{0, 2}, {0, 3}, {1, 4, 6}, {1, 4, 7}, {5, 8, 10}, {5, 8, 11}}, [][]int{{0}, {8}}, 1, false},
		{"by the one far ahead", four(), [][]int{{0}, {4, 5}, {6, 7}, {8}}, -1, false},
		{"not by the one behind", eight()[:4], [][]int{{0, 2, 6}, {0, 6}, {0}, {0, 2}}, 2, false},
		{"not by itself", eight(), [][]int{{0}}, 0, false},
	})
}

func TestEmptyClausesInProof(t *testing.T) {
	areProofs(t, []proofEdge{
		{"it has none", four(), [][]int{{}}, 0, false},
		{"it has none, no list", four(), [][]int{nil}, 0, false},
		{"it has none, behind others", four(), [][]int{{0, 2}, {1, 3, 4}, {}}, 2, false},
		{"it has none, ahead of others", four(), [][]int{{}, {0}}, 0, false},
		{"it has one, first", [][]int{{0}, {1}}, [][]int{{}}, -1, true},
		{"it has one, no list", [][]int{{0}, {1}}, [][]int{nil}, -1, true},
		{"it is of l", [][]int{{}}, [][]int{{}}, -1, true},
		{"it is of l, among others", [][]int{{0, 2}, nil, {4, 6}}, [][]int{{8}, {}}, -1, true},
		{"it is of l, but not of proof", [][]int{{}}, [][]int{{8}, {4, 2}}, -1, false},
		{"first, and all behind it", [][]int{{0}, {1}}, [][]int{{}, {4}, {7, 9}, {-1}}, -1, true},
		{"in the middle, and all behind it", four(), [][]int{{0}, {}, {4}, {7, 9}}, -1, true},
		{"last", four(), [][]int{{0}, {2}, {4, 0}, {}}, -1, true},
		{"several times", four(), [][]int{{3}, {}, {}, {8}, nil}, -1, true},
		{"none is there", four(), [][]int{{0}, {2}, {1}, {4}}, -1, false},
		{"the place is its own", four(), [][]int{{0, 2}, {}, {0}}, 1, false},
		{"the place is ahead of it", four(), [][]int{{4}, {0}, {}}, 0, false},
		{"the place is far ahead of it", four(), [][]int{{4}, {0}, {2}, {1}, {}, {}}, 0, false},
		{"its place and one behind it", four(), [][]int{{}, {0}, {}}, 0, false},
	})
}

func TestAgainstPlain(t *testing.T) {
	places := map[int]int{}
	refuted := 0
	compare := func(l, proof [][]int) {
		for _, c := range proof {
			if got := Step(l, c); got != plainStep(l, c) {
				t.Fatalf("Step(%v, %v) = %v", l, c, got)
			}
		}
		place, refutes := plainProof(l, proof)
		isProof(t, l, proof, place, refutes)
		places[place]++
		if refutes {
			refuted++
		}
	}
	shortSamples(compare)
	longSamples(func(_ int, l, proof [][]int) { compare(l, proof) })
	for place := -1; place < 3; place++ {
		if places[place] < 100 {
			t.Errorf("the samples are one-sided: %v", places)
		}
	}
	if refuted < 100 {
		t.Errorf("only %d samples are refuted", refuted)
	}
}

// A proof in which each clause only has a Step by the one ahead of it.
func TestLongProof(t *testing.T) {
	const n = 300
	l := [][]int{{0}}
	var proof [][]int
	for v := range n {
		a, b, c := 4*v, 4*v+2, 4*v+4
		l = append(l, []int{a ^ 1, b, c}, []int{a ^ 1, b ^ 1, c})
		proof = append(proof, []int{c})
	}
	l = append(l, []int{4*n + 1, 4*n + 2}, []int{4*n + 1, 4*n + 3})
	isProof(t, l, append(slices.Clone(proof), []int{}), -1, true)
	isProof(t, l, append(slices.Delete(slices.Clone(proof), 200, 201), []int{}), 200, false)
}

// Promise 7.2.

// models calls do with all lists of truths of so many variables in which all
// clauses hold.
func models(vars int, l [][]int, do func(bits int)) {
	for bits := range 1 << vars {
		holds := true
		for _, c := range l {
			holds = holds && clauseHolds(c, bits)
		}
		if holds {
			do(bits)
		}
	}
}

func clauseHolds(c []int, bits int) bool {
	return slices.ContainsFunc(c, func(x int) bool { return x >= 0 && bits>>(x/2)&1 != x%2 })
}

// isSound fails if a clause that has a Step, or one ahead of Check's place,
// does not hold where l does, or if l holds somewhere and is refuted.
func isSound(t *testing.T, vars int, l, proof [][]int) {
	t.Helper()
	models(vars, l, func(bits int) {
		for _, c := range proof {
			if Step(l, c) && !clauseHolds(c, bits) {
				t.Fatalf("Step(%v, %v), but it does not hold at %b", l, c, bits)
			}
		}
		place := Check(l, proof)
		if place == -1 {
			place = len(proof)
		}
		for _, c := range proof[:place] {
			if !clauseHolds(c, bits) {
				t.Fatalf("Check(%v, %v) = %d, but %v does not hold at %b", l, proof, place, c, bits)
			}
		}
		if Refutes(l, proof) {
			t.Fatalf("Refutes(%v, %v), but all hold at %b", l, proof, bits)
		}
	})
}

func TestRefutedClausesHoldNowhere(t *testing.T) {
	shortSamples(func(l, proof [][]int) { isSound(t, 1, l, proof) })
	longSamples(func(vars int, l, proof [][]int) { isSound(t, vars, l, proof) })
}

func TestAllStepsOfSmallClausesAreSound(t *testing.T) {
	short := lists(2, -1, 4)
	for _, a := range short {
		for _, b := range short {
			isSound(t, 2, [][]int{a, b}, short)
			for _, c := range short {
				isSound(t, 2, [][]int{a, b}, [][]int{c, {}})
				isSound(t, 2, [][]int{a, b, c}, [][]int{{0}, {}})
			}
		}
	}
}

// Wrong inputs.

func TestWrongLiteralsInClauses(t *testing.T) {
	for _, x := range wrong {
		areSteps(t, []stepEdge{
			{"alone in l", [][]int{{x}}, nil, true},
			{"alone in l, several", [][]int{{x, -1, x}}, []int{4}, true},
			{"alone in l, among other clauses", [][]int{{0, 2}, {x}, {4, 6}}, []int{8}, true},
			{"with one literal", [][]int{{x, 0}}, []int{0}, true},
			{"behind one literal", [][]int{{0, x}}, []int{2}, false},
			{"between two", [][]int{{0, x, 2}}, []int{2, 0}, true},
			{"between two, one is left", [][]int{{0, x, 2}}, []int{2}, false},
			{"what follows goes on", [][]int{{5, x, 6}, {x, 4, x}}, []int{6}, true},
			{"alone in c", [][]int{{0, 2}}, []int{x}, false},
			{"alone in c, no clauses", nil, []int{x, -1, -2, x}, false},
			{"alone in c, as the empty clause", [][]int{{0}, {1}}, []int{x}, true},
			{"in c first", [][]int{{0, 2}}, []int{x, 0, 2}, true},
			{"in c between", [][]int{{0, 2}}, []int{0, x, 2}, true},
			{"in c last, one is left", [][]int{{0, 2}}, []int{0, x}, false},
			{"in c between a literal and its Not", nil, []int{6, x, 7}, true},
			{"in both", [][]int{{x, 0}}, []int{2, x}, false},
			{"in both, with the same literal", [][]int{{x, 0}}, []int{0, x}, true},
		})
	}
}

func TestWrongLiteralsInProof(t *testing.T) {
	for _, x := range wrong {
		areProofs(t, []proofEdge{
			{"alone, no clauses", nil, [][]int{{x}}, 0, false},
			{"alone, it has none", four(), [][]int{{x}, {}}, 0, false},
			{"alone, it has one", four(), [][]int{{0}, {x}, {}}, -1, true},
			{"alone, and no empty clause", four(), [][]int{{0}, {x}}, -1, false},
			{"alone, and all behind it", [][]int{{0}, {1}}, [][]int{{x, x}, {4}, {6}}, -1, false},
			{"first", four(), [][]int{{x, 0}, {}}, -1, true},
			{"between", four(), [][]int{{2, x, 0}, {0}, {}}, -1, true},
			{"last", four(), [][]int{{0, x}, {}}, -1, true},
			{"last, behind one that decides", four(), [][]int{{0}, {1, x}, {}, {4}}, -1, true},
			{"last, it has none", four(), [][]int{{0, 2}, {4, x}, {0}, {}}, 1, false},
			{"in l alone", [][]int{{x}}, [][]int{{4}, {}}, -1, true},
			{"in l among others", [][]int{{0, x, 2}, {x, 0, 3}, {1, 2, x}, {1, 3}}, [][]int{{0}, {}}, -1, true},
			{"in l among others, it has none", [][]int{{0, x, 2}, {x, 0, 3}, {1, 2, x}}, [][]int{{0}, {}}, 1, false},
		})
	}
}

// greatVars are variables whose literals stand apart, up to the greatest that
// an int can hold.
var greatVars = []int{2, 3, 9, 50, api.MaxVars - 1, api.MaxVars, math.MaxInt32, math.MaxInt/2 - 1, math.MaxInt / 2}

func TestVeryGreatLiterals(t *testing.T) {
	const top = math.MaxInt
	areSteps(t, []stepEdge{
		{"no clauses", nil, []int{top}, false},
		{"itself", [][]int{{top}}, []int{top}, true},
		{"its Not", [][]int{{top}}, []int{top - 1}, false},
		{"and its Not", nil, []int{top, 0, top - 1}, true},
		{"what follows from two", [][]int{{top, 0}, {top - 1, 2}}, []int{2, 0}, true},
		{"less than follows from two", [][]int{{top, 0}, {top - 1, 2}}, []int{2}, false},
		{"a clash", [][]int{{top}, {top - 1}}, nil, true},
	})
	// Steps do not hang on how great the variables are.
	for i, a := range greatVars {
		for _, b := range greatVars[i+1:] {
			x, y := 2*a, 2*b
			l := [][]int{{x, y}, {x, y + 1}, {x + 1, y}, {x + 1, y + 1}}
			isProof(t, l, [][]int{{x}, {}}, -1, true)
			isProof(t, l, [][]int{{y + 1}, {0}, {}}, -1, true)
			isProof(t, l, [][]int{{}, {y}}, 0, false)
			isProof(t, l[:3], [][]int{{x}, {y + 1}, {}}, 1, false)
		}
	}
}

// Rules that hold everywhere.

// guarded tells lists as l has them, each with numbers behind its end, and
// lists behind their end, and a function that tells whether all is as it was.
func guarded(l [][]int) ([][]int, func() bool) {
	var inner, before [][]int
	var lists [][]int
	for _, c := range l {
		whole := append(slices.Clone(c), -77, 77, -77, 77)
		inner = append(inner, whole)
		before = append(before, slices.Clone(whole))
		lists = append(lists, whole[:len(c)])
	}
	behind := []int{77}
	outer := append(slices.Clone(lists), behind, behind, behind, behind)
	same := func() bool {
		for i, c := range outer {
			want := behind
			if i < len(l) {
				want = lists[i]
			}
			if len(c) != len(want) || len(c) > 0 && &c[0] != &want[0] {
				return false
			}
		}
		return slices.EqualFunc(inner, before, slices.Equal) && behind[0] == 77
	}
	return outer[:len(l)], same
}

func TestHandedInStaysAsItWas(t *testing.T) {
	look := func(l, proof [][]int) {
		given, same := guarded(l)
		steps, also := guarded(proof)
		Check(given, steps)
		Refutes(given, steps)
		for _, c := range steps {
			Step(given, c)
		}
		if !same() || !also() {
			t.Fatalf("what was handed in has changed: %v, %v", l, proof)
		}
	}
	shortSamples(look)
	longSamples(func(_ int, l, proof [][]int) { look(l, proof) })
	look(four(), [][]int{{0}, {}})
	look(eight(), [][]int{{2, 0}, {0}, {2, 2}, {}, {-1, 9}})
}

// The clauses of l and of proof may lie in one list.
func TestProofBehindClausesInOneList(t *testing.T) {
	all := append(four(), []int{0}, []int{})
	isProof(t, all[:4], all[4:], -1, true)
	isProof(t, all[:3], all[4:], 1, false)
	isProof(t, all[:4], all, -1, true)
	isProof(t, all, all[:4], -1, false)
}
