package unit

import (
	"math"
	"slices"
	"testing"

	"breakwater/api"
)

// wrong are numbers of no literal, near 0 and far off.
var wrong = []int{-1, -2, -3, -2 * api.MaxVars, math.MinInt32, math.MinInt + 1, math.MinInt}

// edge is a call of Close and what the chapter asks of it.
type edge struct {
	name string
	l    [][]int
	set  []int
	want []int
	ok   bool
}

// lists tells all lists of up to n numbers of from to top - 1, in any order
// and also several times the same.
func lists(n, from, top int) [][]int {
	all := [][]int{nil}
	for done := 0; n > 0; n-- {
		till := len(all)
		for _, l := range all[done:till] {
			for x := from; x < top; x++ {
				all = append(all, append(slices.Clone(l), x))
			}
		}
		done = till
	}
	return all
}

// samples calls do with many clauses and sets of so many variables: all short
// clauses one, two and three at a time, with no literal, one and two in set.
// With low below 0 numbers of no literal are among them.
func samples(vars, low int, do func(l [][]int, set []int)) {
	sets := lists(2, low, 2*vars)
	all := lists(3, low, 2*vars)
	short := lists(2, low, 2*vars)
	for _, set := range sets {
		do(nil, set)
		for _, a := range all {
			do([][]int{a}, set)
		}
		for _, a := range short {
			for _, b := range short {
				do([][]int{a, b}, set)
			}
		}
	}
	for _, a := range short {
		for _, b := range short {
			for _, c := range short {
				do([][]int{a, b, c}, nil)
			}
		}
	}
}

// plainClose tells what follows by the words of the chapter: it goes over all
// clauses until nothing more follows, and asks for a clash at the end alone.
func plainClose(l [][]int, set []int) ([]int, bool) {
	holds := map[int]bool{}
	for _, x := range set {
		if x >= 0 {
			holds[x] = true
		}
	}
	for grown := true; grown; {
		grown = false
		for _, c := range l {
			may := mayHold(c, holds)
			if len(may) == 0 {
				return nil, false
			}
			if len(may) == 1 && !holds[may[0]] {
				holds[may[0]] = true
				grown = true
			}
		}
	}
	var held []int
	for x := range holds {
		if holds[x^1] {
			return nil, false
		}
		held = append(held, x)
	}
	slices.Sort(held)
	return held, true
}

// mayHold tells the literals of c, each once, whose Nots do not hold.
func mayHold(c []int, holds map[int]bool) []int {
	var may []int
	for _, x := range c {
		if x >= 0 && !holds[x^1] && !slices.Contains(may, x) {
			may = append(may, x)
		}
	}
	return may
}

// closes fails if Close does not answer what is wanted.
func closes(t *testing.T, l [][]int, set []int, want []int, ok bool) {
	t.Helper()
	got, is := Close(l, set)
	if is != ok || !slices.Equal(got, want) {
		t.Fatalf("Close(%v, %v) = %v, %v; want %v, %v", l, set, got, is, want, ok)
	}
}

// isClose fails if Close does not answer what is wanted, or if Follows does
// not go by it, for literals near and far and numbers of none.
func isClose(t *testing.T, l [][]int, set []int, want []int, ok bool) {
	t.Helper()
	closes(t, l, set, want, ok)
	asked := slices.Concat(wrong, want, []int{0, 1, 2, 3, 4, 5, 6, 7, 100, math.MaxInt - 1, math.MaxInt})
	for _, x := range asked {
		if f := Follows(l, set, x); f != (!ok || slices.Contains(want, x)) {
			t.Fatalf("Follows(%v, %v, %d) = %v; Close is %v, %v", l, set, x, f, want, ok)
		}
	}
}

func areEdges(t *testing.T, edges []edge) {
	t.Helper()
	for _, e := range edges {
		t.Run(e.name, func(t *testing.T) { isClose(t, e.l, e.set, e.want, e.ok) })
	}
}

// Promise 6.1.

func TestCloseExample(t *testing.T) {
	isClose(t, [][]int{{1, 2}, {3, 4}}, []int{0}, []int{0, 2, 4}, true)
}

func TestCloseOfNothing(t *testing.T) {
	areEdges(t, []edge{
		{"no list at all", nil, nil, nil, true},
		{"no clauses", [][]int{}, []int{}, nil, true},
		{"no list of clauses, a set", nil, []int{4, 1}, []int{1, 4}, true},
		{"no clauses, a set", [][]int{}, []int{4, 1}, []int{1, 4}, true},
		{"no set at all", [][]int{{1, 2}, {4}}, nil, []int{4}, true},
		{"set empty", [][]int{{1, 2}, {4}}, []int{}, []int{4}, true},
		{"nothing follows", [][]int{{0, 2}, {1, 3}}, nil, nil, true},
	})
}

func TestCloseOfShortClauses(t *testing.T) {
	areEdges(t, []edge{
		{"an empty clause", [][]int{{}}, nil, nil, false},
		{"an empty clause that is no list", [][]int{nil}, []int{0}, nil, false},
		{"an empty clause first", [][]int{{}, {0, 2}, {4}}, []int{1}, nil, false},
		{"an empty clause between", [][]int{{0, 2}, {}, {4}}, []int{1}, nil, false},
		{"an empty clause last", [][]int{{0, 2}, {4}, {}}, []int{1}, nil, false},
		{"one literal", [][]int{{3}}, nil, []int{3}, true},
		{"one literal, variable 0", [][]int{{0}}, nil, []int{0}, true},
		{"one literal, a negation of variable 0", [][]int{{1}}, nil, []int{1}, true},
		{"one literal that is in set", [][]int{{3}}, []int{3}, []int{3}, true},
		{"several of one literal", [][]int{{7}, {0}, {3}, {0}}, []int{4}, []int{0, 3, 4, 7}, true},
	})
}

func TestCloseTellsRisingEachOnce(t *testing.T) {
	areEdges(t, []edge{
		{"set falls", nil, []int{9, 7, 4, 2, 0}, []int{0, 2, 4, 7, 9}, true},
		{"set says it again", nil, []int{5, 0, 5, 5, 0}, []int{0, 5}, true},
		{"a clause says it again", [][]int{{3, 3, 3}}, nil, []int{3}, true},
		{"what is left is there again", [][]int{{4, 1, 4, 4}}, []int{0}, []int{0, 4}, true},
		{"what does not hold is there again", [][]int{{1, 4, 1, 1}}, []int{0}, []int{0, 4}, true},
		{"all of it is there again", [][]int{{1, 6, 1, 3, 6, 3, 1}}, []int{2, 0, 2}, []int{0, 2, 6}, true},
		{"two that are left, again", [][]int{{6, 1, 4, 6, 1, 4}}, []int{0}, []int{0}, true},
		{"two clauses say it", [][]int{{1, 4}, {4, 3}}, []int{0, 2}, []int{0, 2, 4}, true},
		{"what follows is below set", [][]int{{13, 2}, {3, 9}, {8, 0}}, []int{12}, []int{0, 2, 9, 12}, true},
	})
}

func TestCloseGoesOn(t *testing.T) {
	areEdges(t, []edge{
		{"clauses in order", [][]int{{1, 2}, {3, 4}, {5, 6}}, []int{0}, []int{0, 2, 4, 6}, true},
		{"clauses that stand earlier", [][]int{{5, 6}, {3, 4}, {1, 2}}, []int{0}, []int{0, 2, 4, 6}, true},
		{"clauses here and there", [][]int{{3, 4}, {7, 9}, {1, 2}, {5, 6}}, []int{0}, []int{0, 2, 4, 6, 9}, true},
		{"from a clause of one literal at the end", [][]int{{5, 6}, {3, 4}, {1, 2}, {0}}, nil, []int{0, 2, 4, 6}, true},
		{"by several that follow", [][]int{{3, 5, 7, 8}, {1, 6}, {1, 4}, {1, 2}}, []int{0}, []int{0, 2, 4, 6, 8}, true},
		{"not while two may hold", [][]int{{3, 5, 7, 8}, {1, 4}, {1, 2}}, []int{0}, []int{0, 2, 4}, true},
		{"not back from what is to follow", [][]int{{1, 2}, {3, 4}}, []int{4}, []int{4}, true},
		{"negations follow", [][]int{{1, 3}, {2, 5}, {4, 7}}, []int{0}, []int{0, 3, 5, 7}, true},
		{"the last literal does not hold", [][]int{{6, 5, 3}}, []int{4, 2}, []int{2, 4, 6}, true},
		{"the middle literal is left", [][]int{{5, 6, 3}}, []int{4, 2}, []int{2, 4, 6}, true},
	})
}

func TestCloseOfClausesThatHold(t *testing.T) {
	areEdges(t, []edge{
		{"a literal and its Not", [][]int{{0, 1}}, nil, nil, true},
		{"a literal and its Not, one in set", [][]int{{0, 1}}, []int{0}, []int{0}, true},
		{"a literal and its Not, the Not in set", [][]int{{0, 1}}, []int{1}, []int{1}, true},
		{"a literal, its Not and one more", [][]int{{1, 4, 0}}, []int{0}, []int{0}, true},
		{"a literal, its Not and one more that does not hold", [][]int{{0, 5, 1}}, []int{4}, []int{4}, true},
		{"a literal holds already", [][]int{{0, 2}}, []int{0}, []int{0}, true},
		{"the only one left holds already", [][]int{{0, 3}}, []int{0, 2}, []int{0, 2}, true},
		{"one holds already, two do not", [][]int{{3, 0, 5}}, []int{0, 2, 4}, []int{0, 2, 4}, true},
		{"one came to hold", [][]int{{6, 0}, {3, 6, 4}}, []int{1}, []int{1, 6}, true},
	})
}

func TestCloseIsFalse(t *testing.T) {
	areEdges(t, []edge{
		{"a literal and its Not in set", nil, []int{0, 1}, nil, false},
		{"a literal and its Not in set, turned", nil, []int{7, 6}, nil, false},
		{"a literal and its Not in set, apart", [][]int{{8, 10}}, []int{2, 0, 4, 6, 4, 3}, nil, false},
		{"a literal and its Not follow", [][]int{{1, 4}, {1, 5}}, []int{0}, nil, false},
		{"a literal and its Not are clauses", [][]int{{0}, {1}}, nil, nil, false},
		{"the Not of one in set follows", [][]int{{1, 2}, {3, 1}}, []int{0}, nil, false},
		{"the Not of one in set is a clause", [][]int{{1}}, []int{0}, nil, false},
		{"a literal and its Not follow late", [][]int{{5, 6}, {5, 7}, {3, 4}, {1, 2}}, []int{0}, nil, false},
		{"none may hold", [][]int{{1, 3}}, []int{0, 2}, nil, false},
		{"none of many may hold", [][]int{{8, 10}, {5, 1, 3, 6}}, []int{2, 7, 4, 0}, nil, false},
		{"none may hold in the end", [][]int{{3, 5}, {1, 4}, {1, 2}}, []int{0}, nil, false},
		{"the same literal again, and it may not", [][]int{{1, 1}}, []int{0}, nil, false},
		{"at the last clause", [][]int{{1, 2}, {3, 4}, {5}}, []int{0}, nil, false},
		{"clauses that never hold, with one in set", [][]int{{0, 2}, {0, 3}, {1, 2}, {1, 3}}, []int{0}, nil, false},
	})
	// These never hold, but no clause of one literal says so.
	isClose(t, [][]int{{0, 2}, {0, 3}, {1, 2}, {1, 3}}, nil, nil, true)
}

func TestFollows(t *testing.T) {
	l, set := [][]int{{1, 2}, {3, 4}}, []int{0}
	for x, want := range []bool{true, false, true, false, true, false, false, false} {
		if got := Follows(l, set, x); got != want {
			t.Errorf("Follows(%v, %v, %d) = %v", l, set, x, got)
		}
	}
	refuted := [][]int{{1, 2}, {3, 1}}
	for _, x := range slices.Concat(wrong, []int{0, 1, 2, 3, 4, 5, 1000, math.MaxInt - 1, math.MaxInt}) {
		if !Follows(refuted, set, x) {
			t.Errorf("Follows(%v, %v, %d) = false, where Close is false", refuted, set, x)
		}
		if Follows(nil, nil, x) {
			t.Errorf("Follows(nil, nil, %d) = true", x)
		}
	}
}

func TestFollowsWrongLiteral(t *testing.T) {
	for _, x := range wrong {
		if Follows([][]int{{1, 2}, {x, 4}}, []int{0, x}, x) {
			t.Errorf("Follows tells %d, which is no literal", x)
		}
		if !Follows([][]int{{1}}, []int{0}, x) {
			t.Errorf("Follows(%d) = false, where Close is false", x)
		}
	}
}

func TestCloseAgainstPlain(t *testing.T) {
	answers := map[bool]int{}
	samples(2, -1, func(l [][]int, set []int) {
		want, ok := plainClose(l, set)
		isClose(t, l, set, want, ok)
		answers[ok]++
	})
	if answers[true] < 10000 || answers[false] < 10000 {
		t.Errorf("the samples are one-sided: %v", answers)
	}
}

// A rule of its own makes these, so that they are the same each time.
func TestLongerCloseAgainstPlain(t *testing.T) {
	state := uint32(1)
	next := func(n int) int {
		state = state*1664525 + 1013904223
		return int(state>>16) % n
	}
	answers := map[bool]int{}
	for range 20000 {
		vars := 2 + next(8)
		var l [][]int
		for range next(4 * vars) {
			var c []int
			for range 1 + next(4) {
				c = append(c, next(2*vars+1)-1)
			}
			l = append(l, c)
		}
		var set []int
		for range next(4) {
			set = append(set, next(2*vars+1)-1)
		}
		want, ok := plainClose(l, set)
		isClose(t, l, set, want, ok)
		answers[ok]++
	}
	if answers[true] < 1000 || answers[false] < 1000 {
		t.Errorf("the samples are one-sided: %v", answers)
	}
}

func TestCloseDoesNotHangOnOrder(t *testing.T) {
	l, set := [][]int{{1, 2}, {3, 5, 6}, {1, 4}, {7, 9}, {8, 10}}, []int{0, 12}
	want := []int{0, 2, 4, 6, 9, 10, 12}
	permuted(len(l), func(places []int) {
		var other [][]int
		for _, i := range places {
			c := slices.Clone(l[i])
			slices.Reverse(c)
			other = append(other, c)
		}
		isClose(t, other, set, want, true)
		isClose(t, append(other, []int{11, 7}), []int{12, 0}, nil, false)
	})
}

// permuted calls do with the places 0 to n - 1 in all orders.
func permuted(n int, do func(places []int)) {
	var put func(places []int)
	put = func(places []int) {
		if len(places) == n {
			do(places)
		}
		for i := range n {
			if !slices.Contains(places, i) {
				put(append(slices.Clone(places), i))
			}
		}
	}
	put(nil)
}

// A chain in which each clause only follows after the one behind it: going
// over all clauses for each would take some 2^35 steps.
func TestCloseOfLongChain(t *testing.T) {
	const n = 1 << 18
	var l [][]int
	want := []int{0}
	for v := n - 1; v >= 0; v-- {
		l = append(l, []int{2*v + 1, 2*v + 2})
	}
	for v := range n {
		want = append(want, 2*v+2)
	}
	if got, ok := Close(l, []int{0}); !ok || !slices.Equal(got, want) {
		t.Errorf("Close of a chain tells %d literals, %v", len(got), ok)
	}
	l[0] = []int{2*n - 1}
	if got, ok := Close(l, []int{0}); ok || len(got) != 0 {
		t.Errorf("Close of a chain with a clash tells %d literals, %v", len(got), ok)
	}
}

func TestCloseOfLongClause(t *testing.T) {
	const n = 1 << 18
	var c, set []int
	for v := range n {
		c = append(c, 2*v)
		set = append(set, 2*v+1)
	}
	want := slices.Insert(slices.Clone(set[1:]), 0, 0)
	if got, ok := Close([][]int{c}, set[1:]); !ok || !slices.Equal(got, want) {
		t.Errorf("Close of a long clause tells %d literals, %v", len(got), ok)
	}
	if got, ok := Close([][]int{c}, set); ok || len(got) != 0 {
		t.Errorf("Close of a long clause that may not hold tells %d literals, %v", len(got), ok)
	}
	if got, ok := Close([][]int{c}, set[2:]); !ok || !slices.Equal(got, set[2:]) {
		t.Errorf("Close of a long clause with two left tells %d literals, %v", len(got), ok)
	}
}

func TestWrongLiteralsInClauses(t *testing.T) {
	for _, x := range wrong {
		areEdges(t, []edge{
			{"alone", [][]int{{x}}, nil, nil, false},
			{"alone, several", [][]int{{x, x, -1, -5}}, nil, nil, false},
			{"alone, among other clauses", [][]int{{0}, {x}, {2, 4}}, nil, nil, false},
			{"alone, and in set", [][]int{{x}}, []int{x}, nil, false},
			{"first, with one", [][]int{{x, 4}}, nil, []int{4}, true},
			{"last, with one", [][]int{{4, x}}, nil, []int{4}, true},
			{"first, with two", [][]int{{x, 4, 6}}, nil, nil, true},
			{"between two", [][]int{{4, x, 6}}, nil, nil, true},
			{"first, with two of which one does not hold", [][]int{{x, 4, 6}}, []int{5}, []int{5, 6}, true},
			{"between two of which one does not hold", [][]int{{4, x, 6}}, []int{7}, []int{4, 7}, true},
			{"last, and none may hold", [][]int{{4, 6, x}}, []int{5, 7}, nil, false},
			{"in a clause that holds", [][]int{{x, 4, x}}, []int{4}, []int{4}, true},
			{"what follows goes on", [][]int{{5, x, 6}, {x, 4, x}}, nil, []int{4, 6}, true},
		})
	}
}

func TestWrongLiteralsInSet(t *testing.T) {
	for _, x := range wrong {
		areEdges(t, []edge{
			{"alone", nil, []int{x}, nil, true},
			{"alone, with clauses", [][]int{{0, 2}}, []int{x, x}, nil, true},
			{"first", [][]int{{1, 2}}, []int{x, 0}, []int{0, 2}, true},
			{"between", [][]int{{1, 3, 4}}, []int{0, x, 2}, []int{0, 2, 4}, true},
			{"last", [][]int{{1, 2}}, []int{0, x}, []int{0, 2}, true},
			{"and its neighbours", nil, []int{x, -1, -2, -3, -4, 6}, []int{6}, true},
			{"between a literal and its Not", nil, []int{4, x, 5}, nil, false},
		})
	}
}

// greatVars are variables whose literals stand apart, up to the greatest that
// an int can hold.
var greatVars = []int{2, 3, 9, 10, 11, 12, 13, 50, api.MaxVars - 1, api.MaxVars, math.MaxInt32, math.MaxInt/2 - 1, math.MaxInt / 2}

func TestVeryGreatLiterals(t *testing.T) {
	const top = math.MaxInt
	areEdges(t, []edge{
		{"in set", nil, []int{top, 0, top}, []int{0, top}, true},
		{"its Not in set", nil, []int{top - 1}, []int{top - 1}, true},
		{"both in set", nil, []int{top - 1, top}, nil, false},
		{"both in a clause", [][]int{{top - 1, top}}, nil, nil, true},
		{"one literal", [][]int{{top}}, nil, []int{top}, true},
		{"it follows", [][]int{{1, top}}, []int{0}, []int{0, top}, true},
		{"from it follows", [][]int{{4, top}}, []int{top - 1}, []int{4, top - 1}, true},
		{"of two of them", [][]int{{top - 2, top, top - 2}}, []int{top - 1}, []int{top - 2, top - 1}, true},
		{"none may hold", [][]int{{top, 0}}, []int{top - 1, 1}, nil, false},
		{"both follow", [][]int{{top, 0}, {0, top - 1}}, []int{1}, nil, false},
	})
}

// What Close tells does not hang on how great the variables are: with others
// in the same order it tells the same literals of these.
func TestCloseOfOtherVariables(t *testing.T) {
	for i, a := range greatVars {
		for _, b := range greatVars[i+1:] {
			rename := func(l []int) []int {
				var other []int
				for _, x := range l {
					if x < 0 {
						other = append(other, x)
						continue
					}
					other = append(other, []int{a, b}[x/2]*2+x%2)
				}
				return other
			}
			short := lists(2, -1, 4)
			for _, c := range short {
				for _, d := range short {
					for _, set := range lists(1, -1, 4) {
						want, ok := plainClose([][]int{c, d}, set)
						closes(t, [][]int{rename(c), rename(d)}, rename(set), rename(want), ok)
					}
				}
			}
		}
	}
}

// Promise 6.2.

// models calls do with all lists of truths of so many variables in which all
// clauses hold, and all of set that are literals.
func models(vars int, l [][]int, set []int, do func(bits int)) {
	for bits := range 1 << vars {
		holds := true
		for _, x := range set {
			holds = holds && (x < 0 || heldIn(x, bits))
		}
		for _, c := range l {
			holds = holds && slices.ContainsFunc(c, func(x int) bool { return heldIn(x, bits) })
		}
		if holds {
			do(bits)
		}
	}
}

func heldIn(x, bits int) bool { return x >= 0 && bits>>(x/2)&1 != x%2 }

func TestWhatFollowsHolds(t *testing.T) {
	samples(2, -1, func(l [][]int, set []int) { isSound(t, 2, l, set) })
	samples(3, 0, func(l [][]int, set []int) { isSound(t, 3, l, set) })
}

// isSound fails if something that follows does not hold where the clauses and
// set do, also if it is told that they never do.
func isSound(t *testing.T, vars int, l [][]int, set []int) {
	t.Helper()
	held, ok := Close(l, set)
	models(vars, l, set, func(bits int) {
		if !ok {
			t.Fatalf("Close(%v, %v) is false, but all hold at %b", l, set, bits)
		}
		for _, x := range held {
			if !heldIn(x, bits) {
				t.Fatalf("Close(%v, %v) tells %d, which does not hold at %b", l, set, x, bits)
			}
		}
		for x := range 2 * vars {
			if Follows(l, set, x) && !heldIn(x, bits) {
				t.Fatalf("Follows(%v, %v, %d), but it does not hold at %b", l, set, x, bits)
			}
		}
	})
}

// keeps fails if something that follows from l and set does not from more and
// larger.
func keeps(t *testing.T, l [][]int, set []int, more [][]int, larger []int) {
	t.Helper()
	held, ok := Close(l, set)
	after, still := Close(more, larger)
	if !ok && still {
		t.Fatalf("Close(%v, %v) is false, Close(%v, %v) is not", l, set, more, larger)
	}
	for _, x := range held {
		if still && !slices.Contains(after, x) {
			t.Fatalf("Close(%v, %v) tells %d, Close(%v, %v) does not", l, set, x, more, larger)
		}
		if !Follows(more, larger, x) {
			t.Fatalf("Close(%v, %v) tells %d, Follows(%v, %v, %d) does not", l, set, x, more, larger, x)
		}
	}
}

func TestMoreLosesNothing(t *testing.T) {
	for _, vars := range []int{2, 3} {
		short := lists(2, -1, 2*vars)
		for _, a := range short {
			for _, b := range short {
				for _, set := range lists(1, 0, 2*vars) {
					keeps(t, [][]int{a}, set, [][]int{a, b}, set)
					keeps(t, [][]int{a}, set, [][]int{b, a}, set)
					for x := -1; x < 2*vars; x++ {
						l := [][]int{a, b}
						keeps(t, l, set, l, append(slices.Clone(set), x))
						keeps(t, l, set, l, append([]int{x}, set...))
					}
				}
			}
		}
	}
}

func TestClauseMoreBetweenLosesNothing(t *testing.T) {
	l := [][]int{{5, 6}, {3, 4}, {1, 2}}
	for _, c := range lists(3, -1, 8) {
		for i := range len(l) + 1 {
			keeps(t, l, []int{0}, slices.Insert(slices.Clone(l), i, c), []int{0})
		}
	}
}

// Rules that hold everywhere.

// guarded tells l with numbers behind its end, which nobody may write to, and
// a function that tells whether all is as it was.
func guarded(l []int) ([]int, func() bool) {
	whole := append(slices.Clone(l), -77, 77, -77, 77)
	before := slices.Clone(whole)
	return whole[:len(l)], func() bool { return slices.Equal(whole, before) }
}

func TestHandedInStaysAsItWas(t *testing.T) {
	samples(2, -1, func(l [][]int, set []int) {
		given, same := guarded(set)
		asWere := []func() bool{same}
		var clauses [][]int
		for _, c := range l {
			g, same := guarded(c)
			clauses = append(clauses, g)
			asWere = append(asWere, same)
		}
		spare := append(slices.Clone(clauses), []int{5}, nil)
		Close(spare[:len(l)], given)
		Follows(spare[:len(l)], given, 2)
		for _, same := range asWere {
			if !same() {
				t.Fatalf("Close or Follows of %v, %v changed what was handed in", l, set)
			}
		}
		for i := range l {
			if len(spare[i]) != len(clauses[i]) || len(spare[i]) > 0 && &spare[i][0] != &clauses[i][0] {
				t.Fatalf("Close or Follows of %v changed the list of clauses", l)
			}
		}
		if !slices.Equal(spare[len(l)], []int{5}) || spare[len(l)+1] != nil {
			t.Fatalf("Close or Follows of %v wrote behind the list of clauses", l)
		}
	})
}

func TestAnswersAreNewMemory(t *testing.T) {
	l, set := [][]int{{2}, {3, 4}}, []int{0, 2}
	got, _ := Close(l, set)
	for i := range got {
		got[i] = -9
	}
	if !slices.Equal(set, []int{0, 2}) || !slices.Equal(l[0], []int{2}) || !slices.Equal(l[1], []int{3, 4}) {
		t.Errorf("what Close answers shares memory with %v, %v", l, set)
	}
	again, _ := Close(l, set)
	if !slices.Equal(again, []int{0, 2, 4}) {
		t.Errorf("Close again tells %v", again)
	}
}
