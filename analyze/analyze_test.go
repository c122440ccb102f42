package analyze

import (
	"fmt"
	"math"
	"math/rand"
	"slices"
	"sync"
	"testing"

	"breakwater/api"
	"breakwater/rup"
	"breakwater/trail"
)

// noLits are numbers that no trail has as literals, whatever its vars.
var noLits = []int{-1, -2, -3, -4, -2 * api.MaxVars, math.MinInt32, math.MinInt + 1, math.MinInt,
	2 * api.MaxVars, 2*api.MaxVars + 1, 2*api.MaxVars + 2, 1 << 32, 1<<32 + 1, 1 << 40, 1 << 62, math.MaxInt - 1, math.MaxInt}

// noNumbers are such that no clause has, if there are not very many.
var noNumbers = []int{-1, -2, -3, -1 << 20, math.MinInt32, math.MinInt + 1, math.MinInt,
	1 << 20, 1 << 40, 1 << 62, math.MaxInt32, math.MaxInt - 1, math.MaxInt}

// answer is what Learn tells.
type answer struct {
	learned []int
	level   int
	vars    []int
	ok      bool
}

func (a answer) is(b answer) bool {
	return slices.Equal(a.learned, b.learned) && a.level == b.level && slices.Equal(a.vars, b.vars) && a.ok == b.ok
}

func learned(level int, vars []int, lits ...int) answer {
	return answer{learned: lits, level: level, vars: vars, ok: true}
}

func learn(t *trail.Trail, l [][]int, conflict int) answer {
	var a answer
	a.learned, a.level, a.vars, a.ok = Learn(t, l, conflict)
	return a
}

// put is a literal that a trail is given: decided, or assigned for a reason.
type put struct {
	decided   bool
	l, reason int
}

func decide(l int) put         { return put{decided: true, l: l, reason: -1} }
func assign(l, reason int) put { return put{l: l, reason: reason} }

// made puts a row on a new trail; all of it must be taken.
func made(tt *testing.T, vars int, row ...put) *trail.Trail {
	tt.Helper()
	t := trail.New(vars)
	for _, p := range row {
		ok := false
		if p.decided {
			ok = t.Decide(p.l)
		} else {
			ok = t.Assign(p.l, p.reason)
		}
		if !ok {
			tt.Fatalf("%v of %v is not taken", p, row)
		}
	}
	return t
}

// shot is all that a trail tells of what it holds.
type shot struct {
	levels int
	lits   []int
	facts  [][2]int
}

func take(t *trail.Trail) shot {
	s := shot{levels: t.Levels(), lits: slices.Clone(t.Lits())}
	for _, l := range s.lits {
		s.facts = append(s.facts, [2]int{t.Level(l / 2), t.Reason(l / 2)})
	}
	return s
}

func (s shot) is(o shot) bool {
	return s.levels == o.levels && slices.Equal(s.lits, o.lits) && slices.Equal(s.facts, o.facts)
}

func deep(l [][]int) [][]int {
	var c [][]int
	for _, x := range l {
		c = append(c, slices.Clone(x))
	}
	return c
}

func same(a, b [][]int) bool { return slices.EqualFunc(a, b, slices.Equal) }

// asked is learn that asks that the call changes nothing, and tells the same
// when it is made again.
func asked(tt *testing.T, t *trail.Trail, l [][]int, conflict int) answer {
	tt.Helper()
	s, c := take(t), deep(l)
	got := learn(t, l, conflict)
	if again := learn(t, l, conflict); !again.is(got) {
		tt.Fatalf("Learn(%v, %v, %d) = %v, and then %v", s, c, conflict, got, again)
	}
	if now := take(t); !now.is(s) {
		tt.Fatalf("Learn(.., %v, %d) changed the trail %v to %v", c, conflict, s, now)
	}
	if !same(l, c) {
		tt.Fatalf("Learn(%v, .., %d) changed the clauses %v to %v", s, conflict, c, l)
	}
	return got
}

// learns asks that the answer is want.
func learns(tt *testing.T, t *trail.Trail, l [][]int, conflict int, want answer) {
	tt.Helper()
	if got := asked(tt, t, l, conflict); !got.is(want) {
		tt.Fatalf("Learn(%v, %v, %d) = %v; want %v", take(t), l, conflict, got, want)
	}
	if p := plainLearn(t, l, conflict); !p.is(want) {
		tt.Fatalf("the plain counterpart of (%v, %v, %d) tells %v; want %v", take(t), l, conflict, p, want)
	}
	follows(tt, t, l, conflict, want)
}

// learnsNothing asks that the answer is none, 0, none, false.
func learnsNothing(tt *testing.T, t *trail.Trail, l [][]int, conflict int) {
	tt.Helper()
	learns(tt, t, l, conflict, answer{})
}

// plainLearn is what the chapter says, word by word: a set of literals in which
// one is replaced behind the other. Replaced are the last ones assigned first:
// each of them stands ahead of the one that was replaced last.
func plainLearn(t *trail.Trail, l [][]int, conflict int) answer {
	if t.Levels() == 0 || conflict < 0 || conflict >= len(l) {
		return answer{}
	}
	set, vars := map[int]bool{}, map[int]bool{}
	if !enter(t, set, vars, l[conflict], nil) {
		return answer{}
	}
	lits := t.Lits()
	for place := len(lits); ; {
		var here []int
		for x := range set {
			if t.Level(x/2) == t.Levels() {
				here = append(here, x)
			}
		}
		for place--; place >= 0 && !slices.Contains(here, lits[place]^1); place-- {
		}
		if place < 0 {
			return answer{}
		}
		x := lits[place]
		if len(here) == 1 {
			return told(t, set, vars, x)
		}
		reason := t.Reason(x / 2)
		if reason < 0 || reason >= len(l) || !slices.Contains(l[reason], x) {
			return answer{}
		}
		delete(set, x^1)
		if !enter(t, set, vars, l[reason], &x) {
			return answer{}
		}
	}
}

// enter puts the literals of c, but for own, into the set; false, if one of
// them has not Value -1.
func enter(t *trail.Trail, set, vars map[int]bool, c []int, own *int) bool {
	for _, x := range c {
		if own != nil && x == *own {
			continue
		}
		if t.Value(x) != -1 {
			return false
		}
		set[x] = true
		if t.Level(x/2) > 0 {
			vars[x/2] = true
		}
	}
	return true
}

func told(t *trail.Trail, set, vars map[int]bool, one int) answer {
	a := answer{learned: []int{one ^ 1}, ok: true}
	for level := t.Levels() - 1; level > 0; level-- {
		var row []int
		for x := range set {
			if t.Level(x/2) == level {
				row = append(row, x)
			}
		}
		slices.Sort(row)
		a.learned = append(a.learned, row...)
		if len(row) > 0 {
			a.level = max(a.level, level)
		}
	}
	for v := range vars {
		a.vars = append(a.vars, v)
	}
	slices.Sort(a.vars)
	return a
}

// plainGlue looks for a literal of each level, one behind the other.
func plainGlue(t *trail.Trail, l []int) int {
	n := 0
	for level := 1; level <= t.Levels(); level++ {
		if slices.ContainsFunc(l, func(x int) bool { return x >= 0 && t.Level(x/2) == level }) {
			n++
		}
	}
	return n
}

// metClauses are those by which a was learned: the conflict, and the reasons of
// all that were replaced. What holds at level 0 stands beside them, if it was
// met: what is learned leaves that out.
func metClauses(t *trail.Trail, l [][]int, conflict int, a answer) [][]int {
	met := [][]int{l[conflict]}
	for _, v := range a.vars {
		if t.Level(v) == t.Levels() && v != a.learned[0]/2 {
			met = append(met, l[t.Reason(v)])
		}
	}
	for _, c := range slices.Clone(met) {
		for _, x := range c {
			if t.Level(x/2) == 0 {
				met = append(met, []int{x ^ 1})
			}
		}
	}
	return met
}

// follows asks what promise 12.2 says of an answer. It leaves the trail as it is.
func follows(tt *testing.T, t *trail.Trail, l [][]int, conflict int, a answer) {
	tt.Helper()
	if !a.ok {
		if !a.is(answer{}) {
			tt.Fatalf("(%v, %v, %d): %v beside false", take(t), l, conflict, a)
		}
		return
	}
	met := metClauses(t, l, conflict, a)
	if !rup.Step(met, a.learned) {
		tt.Fatalf("(%v, %v, %d): %v has no Step by %v", take(t), l, conflict, a.learned, met)
	}
	if Glue(t, a.learned) != plainGlue(t, a.learned) {
		tt.Fatalf("Glue(%v, %v) = %d; want %d", take(t), a.learned, Glue(t, a.learned), plainGlue(t, a.learned))
	}
	if a.level < 0 || a.level >= t.Levels() {
		tt.Fatalf("(%v, %v, %d): there is no way Back to %d", take(t), l, conflict, a.level)
	}
	back := copyOf(t)
	back.Back(a.level)
	for i, x := range a.learned {
		want := -1
		if i == 0 {
			want = 0
		}
		if got := back.Value(x); got != want {
			tt.Fatalf("(%v, %v, %d): behind Back(%d) %d of %v has the Value %d", take(t), l, conflict, a.level, x, a.learned, got)
		}
	}
}

// copyOf makes a trail on which all stands that stands on t.
func copyOf(t *trail.Trail) *trail.Trail {
	vars := 0
	for _, x := range t.Lits() {
		vars = max(vars, x/2+1)
	}
	c := trail.New(vars)
	for _, x := range t.Lits() {
		if t.Level(x/2) > c.Levels() {
			c.Decide(x)
		} else {
			c.Assign(x, t.Reason(x/2))
		}
	}
	return c
}

// Promise 12.1: Learn, ordinary inputs.

func TestTheExample(tt *testing.T) {
	l := [][]int{{1, 2}, {1, 3}}
	t := made(tt, 2, decide(0), assign(2, 0))
	learns(tt, t, l, 1, learned(0, []int{0, 1}, 1))
	// By the other of them variable 1 may have come to be false.
	t = made(tt, 2, decide(0), assign(3, 1))
	learns(tt, t, l, 0, learned(0, []int{0, 1}, 1))
	// Of the clause that is the reason one literal holds.
	learnsNothing(tt, t, l, 1)
}

// ladder is a trail of three levels: at 1 hold 0 and 2, at 2 hold 4 and 7, at 3
// hold 8, 10, 13 and 14.
func ladder(tt *testing.T) (*trail.Trail, [][]int) {
	tt.Helper()
	l := [][]int{{1, 2}, {5, 7}, {9, 10}, {11, 13, 6}, {14, 12, 3, 9}}
	return made(tt, 8, decide(0), assign(2, 0), decide(4), assign(7, 1),
		decide(8), assign(10, 2), assign(13, 3), assign(14, 4)), l
}

func TestOneThatIsLeftAtOnce(tt *testing.T) {
	t, l := ladder(tt)
	for _, x := range []int{9, 11, 12, 15} {
		with := func(c ...int) ([][]int, int) { return append(slices.Clone(l), c), len(l) }
		m, n := with(x)
		learns(tt, t, m, n, learned(0, []int{x / 2}, x))
		m, n = with(3, x)
		learns(tt, t, m, n, learned(1, []int{1, x / 2}, x, 3))
		m, n = with(x, 6, 1, 5)
		learns(tt, t, m, n, learned(2, []int{0, 2, 3, x / 2}, x, 5, 6, 1))
		m, n = with(1, 3, 5, 6, x)
		learns(tt, t, m, n, learned(2, []int{0, 1, 2, 3, x / 2}, x, 5, 6, 1, 3))
	}
}

func TestOneThatIsLeftBehindReasons(tt *testing.T) {
	t, l := ladder(tt)
	with := func(c ...int) ([][]int, int) { return append(slices.Clone(l), c), len(l) }
	// 13 is replaced by 10: one is left, which was not decided.
	m, n := with(12, 11)
	learns(tt, t, m, n, learned(2, []int{3, 5, 6}, 11, 6))
	// 13 and then 10 are replaced: what was decided is left.
	m, n = with(12, 9)
	learns(tt, t, m, n, learned(2, []int{3, 4, 5, 6}, 9, 6))
	// 14 by 13 and 8, 13 by 10, 10 by 8, where two ways meet.
	m, n = with(15, 11)
	learns(tt, t, m, n, learned(2, []int{1, 3, 4, 5, 6, 7}, 9, 6, 3))
	m, n = with(15, 12)
	learns(tt, t, m, n, learned(2, []int{1, 3, 4, 5, 6, 7}, 9, 6, 3))
	// All of the level, and what a reason has already.
	m, n = with(9, 11, 12, 15, 1, 3)
	learns(tt, t, m, n, learned(2, []int{0, 1, 3, 4, 5, 6, 7}, 9, 6, 1, 3))
	m, n = with(15, 9)
	learns(tt, t, m, n, learned(2, []int{1, 3, 4, 5, 6, 7}, 9, 6, 3))
	m, n = with(11, 9)
	learns(tt, t, m, n, learned(0, []int{4, 5}, 9))
}

// TestWaysThatMeetAgain: the one that is left is where two ways part that meet
// in the conflict; what came ahead of it is not met.
func TestWaysThatMeetAgain(tt *testing.T) {
	// 0 lets 2 hold, that 4 and 6, these 8 and 10, which can not be both.
	l := [][]int{{1, 2}, {3, 4}, {3, 6}, {5, 8}, {7, 10}, {9, 11}}
	t := made(tt, 6, decide(0), assign(2, 0), assign(4, 1), assign(6, 2), assign(8, 3), assign(10, 4))
	learns(tt, t, l, 5, learned(0, []int{1, 2, 3, 4, 5}, 3))
	// The same with each way longer than the other, and in another order.
	t = made(tt, 6, decide(0), assign(2, 0), assign(6, 2), assign(10, 4), assign(4, 1), assign(8, 3))
	learns(tt, t, l, 5, learned(0, []int{1, 2, 3, 4, 5}, 3))
	// They meet in one literal, which is left alone, and then not gone on from.
	l = [][]int{{1, 2}, {1, 4}, {3, 5, 6}, {7, 8}, {7, 10}, {9, 11}}
	t = made(tt, 6, decide(0), assign(2, 0), assign(4, 1), assign(6, 2), assign(8, 3), assign(10, 4))
	learns(tt, t, l, 5, learned(0, []int{3, 4, 5}, 7))
}

// TestTheLastOneAssignedFirst: with another order less would be met, or more.
func TestTheLastOneAssignedFirst(tt *testing.T) {
	// 2 and 4 follow from 0, and 6 from 4 and what was at level 1.
	l := [][]int{{1, 2}, {1, 4}, {5, 6, 9}, {3, 7}, {3, 5}}
	t := made(tt, 5, decide(8), decide(0), assign(2, 0), assign(4, 1), assign(6, 2))
	// 7 is replaced by 5 and 9, 5 by 1, 3 by 1.
	learns(tt, t, l, 3, learned(1, []int{0, 1, 2, 3, 4}, 1, 9))
	learns(tt, t, l, 4, learned(0, []int{0, 1, 2}, 1))
	// Assigned the other way round: 3 is what is left behind 7 and 5.
	l = [][]int{{1, 2}, {3, 4}, {5, 6, 9}, {3, 7}}
	t = made(tt, 5, decide(8), decide(0), assign(2, 0), assign(4, 1), assign(6, 2))
	learns(tt, t, l, 3, learned(1, []int{1, 2, 3, 4}, 3, 9))
	// 2 comes last: it is replaced first, and 6 is not.
	l = [][]int{{7, 2}, {1, 4}, {5, 6, 9}, {3, 7}}
	t = made(tt, 5, decide(8), decide(0), assign(4, 1), assign(6, 2), assign(2, 0))
	learns(tt, t, l, 3, learned(0, []int{1, 3}, 7))
}

func TestChains(tt *testing.T) {
	for _, n := range []int{1, 2, 3, 10, 300} {
		// 0, and each of the next by the one ahead of it.
		l := [][]int{}
		row := []put{decide(0)}
		var vars []int
		for v := 1; v <= n; v++ {
			l = append(l, []int{2 * v, 2*v - 1})
			row = append(row, assign(2*v, v-1))
		}
		for v := range n + 1 {
			vars = append(vars, v)
		}
		t := made(tt, n+1, row...)
		for v := range n {
			// The last and that of v: all between are replaced.
			c := append(slices.Clone(l), []int{2*v + 1, 2*n + 1})
			learns(tt, t, c, n, learned(0, vars[v:], 2*v+1))
		}
		c := append(slices.Clone(l), []int{2*n + 1})
		learns(tt, t, c, n, learned(0, vars[n:], 2*n+1))
	}
}

func TestTheOrderOfWhatIsLearned(tt *testing.T) {
	// At each level three hold, with numbers that do not rise with the levels.
	levels := [][]int{{20, 3, 9}, {7, 30, 12}, {1, 25, 4}, {14, 10, 28}, {16, 33, 18}}
	var row []put
	for _, level := range levels {
		row = append(row, decide(level[0]), assign(level[1], 77), assign(level[2], -5))
	}
	t := made(tt, 17, row...)
	conflict := []int{13, 2, 17, 21, 6, 31, 8, 0, 24, 5, 15, 11, 29, 19}
	want := []int{19, 11, 15, 29, 0, 5, 24, 6, 13, 31, 2, 8, 21}
	vars := []int{0, 1, 2, 3, 4, 5, 6, 7, 9, 10, 12, 14, 15}
	// 17 is what was decided, 19 would be replaced: only one of them is there.
	one := slices.DeleteFunc(slices.Clone(conflict), func(x int) bool { return x == 17 })
	random := rand.New(rand.NewSource(1))
	for range 200 {
		random.Shuffle(len(one), func(i, j int) { one[i], one[j] = one[j], one[i] })
		learns(tt, t, [][]int{one}, 0, learned(4, vars, want...))
	}
	learnsNothing(tt, t, [][]int{conflict}, 0)
}

func TestTheLevelToGoBackTo(tt *testing.T) {
	var row []put
	for level := range 6 {
		row = append(row, decide(4*level), assign(4*level+2, 0))
	}
	t := made(tt, 12, row...)
	// What was decided at level k + 1 is 4 * k.
	for _, c := range []struct {
		levels []int
		want   int
	}{{nil, 0}, {[]int{0}, 1}, {[]int{1}, 2}, {[]int{4}, 5}, {[]int{0, 1}, 2}, {[]int{4, 0}, 5}, {[]int{0, 4}, 5},
		{[]int{2, 3, 1}, 4}, {[]int{0, 1, 2, 3, 4}, 5}, {[]int{3, 2, 0}, 4}} {
		conflict := []int{4*5 + 1}
		for _, k := range c.levels {
			conflict = append(conflict, 4*k+1, 4*k+3)
		}
		if got := asked(tt, t, [][]int{conflict}, 0); !got.ok || got.level != c.want {
			tt.Fatalf("%v: %v; want the level %d", conflict, got, c.want)
		}
		learns(tt, t, [][]int{conflict}, 0, plainLearn(t, [][]int{conflict}, 0))
	}
}

func TestLevel0IsLeftOut(tt *testing.T) {
	// 20 and 23 hold at level 0, for no clauses that there are.
	l := [][]int{{1, 2, 21}, {3, 22, 4}, {5, 22, 3, 21, 9}, {1, 21}, {21, 22, 1, 9}, {22, 5, 3}}
	t := made(tt, 12, assign(20, 99), assign(23, -7), decide(8), decide(0), assign(2, 0), assign(4, 1))
	learns(tt, t, l, 2, learned(1, []int{1, 2, 4}, 3, 9))
	learns(tt, t, l, 3, learned(0, []int{0}, 1))
	learns(tt, t, l, 4, learned(1, []int{0, 4}, 1, 9))
	learns(tt, t, l, 5, learned(0, []int{1, 2}, 3))
	// Where only level 0 is beside it there is no second one.
	t = made(tt, 12, assign(20, 99), assign(23, -7), decide(0), assign(2, 0), assign(4, 1))
	l = [][]int{{1, 2, 21}, {1, 22, 4}, {5, 22, 3, 21}}
	learns(tt, t, l, 2, learned(0, []int{0, 1, 2}, 1))
	// Variable 0 at level 0, and 1 as the literal that was decided.
	t = made(tt, 2, assign(0, 0), decide(2))
	learns(tt, t, [][]int{{3, 1}}, 0, learned(0, []int{1}, 3))
	learns(tt, t, [][]int{{1, 3}}, 0, learned(0, []int{1}, 3))
}

func TestOneThatWasDecidedAndOneThatWasNot(tt *testing.T) {
	l := [][]int{{1, 3}, {2, 5}, {1, 4}}
	t := made(tt, 3, decide(0), assign(3, 0), assign(4, 2))
	// All of 0's come to it; what is left is 0, which was decided.
	learns(tt, t, append(l, []int{2, 5}), 3, learned(0, []int{0, 1, 2}, 1))
	l = [][]int{{1, 3}, {2, 5}, {2, 4}}
	t = made(tt, 3, decide(0), assign(3, 0), assign(4, 2))
	// Now what is left is 3, which was not.
	learns(tt, t, l, 1, learned(0, []int{1, 2}, 2))
}

func TestALiteralThatIsThereTwice(tt *testing.T) {
	// In the conflict: alone at its level, of two, and of a lower level.
	l := [][]int{{1, 2, 2, 9, 9}, {3, 4, 3}, {3, 3}, {3, 5, 5, 3}, {5, 9, 9, 5}, {1, 1, 9}, {5, 5, 5, 1, 1, 9, 3}}
	t := made(tt, 5, decide(8), decide(0), assign(2, 0), assign(4, 1))
	learns(tt, t, l, 2, learned(0, []int{1}, 3))
	learns(tt, t, l, 3, learned(0, []int{1, 2}, 3))
	learns(tt, t, l, 4, learned(1, []int{2, 4}, 5, 9))
	learns(tt, t, l, 5, learned(1, []int{0, 4}, 1, 9))
	// In reasons: another one, of this level and of a lower one, and its own.
	learns(tt, t, l, 6, learned(1, []int{0, 1, 2, 4}, 1, 9))
}

// TestReasonsThatAreNotAsked: what is not on the way may be any.
func TestReasonsThatAreNotAsked(tt *testing.T) {
	for _, r := range append([]int{2, 3, 4}, noNumbers...) {
		// 10 holds at level 0, 8 and 12 at level 1, 2 is what is left, and 6 is
		// not met; none of them is replaced.
		l := [][]int{{3, 4, 13}, {3, 5, 9, 11}, {}, {2, 8, 10, 12, 6}, {-1}}
		t := made(tt, 7, assign(10, r), decide(8), assign(12, r), decide(0), assign(2, r), assign(4, 0), assign(6, r))
		learns(tt, t, l, 1, learned(1, []int{1, 2, 4, 6}, 3, 9, 13))
	}
}

// Promise 12.1: Learn that tells none, 0, none, false.

func TestLevel0TeachesNothing(tt *testing.T) {
	l := [][]int{{1, 2}, {1, 3}, {1}, {}, {5}, {0}, nil}
	for _, row := range [][]put{nil, {assign(0, -1)}, {assign(0, -1), assign(2, 0)}, {assign(0, 5), assign(2, 0), assign(4, 1)}} {
		t := made(tt, 3, row...)
		for conflict := -1; conflict <= len(l); conflict++ {
			learnsNothing(tt, t, l, conflict)
		}
		// Nor does it behind a way Back from a level.
		if t.Decide(4) {
			t.Back(0)
		}
		for conflict := -1; conflict <= len(l); conflict++ {
			learnsNothing(tt, t, l, conflict)
		}
	}
	learnsNothing(tt, trail.New(0), [][]int{{}}, 0)
	learnsNothing(tt, new(trail.Trail), [][]int{{1}}, 0)
}

func TestNoSuchClause(tt *testing.T) {
	t := made(tt, 2, decide(0), assign(2, 0))
	l := [][]int{{1, 2}, {1, 3}}
	for _, conflict := range append([]int{2, 3, 4, 100}, noNumbers...) {
		learnsNothing(tt, t, l, conflict)
		learnsNothing(tt, t, nil, conflict)
		learnsNothing(tt, t, [][]int{}, conflict)
		// Room behind the clauses is none of them.
		learnsNothing(tt, t, l[:1], conflict)
	}
	learnsNothing(tt, t, nil, 0)
	learnsNothing(tt, t, nil, 1)
	learnsNothing(tt, t, l[:1], 1)
	learns(tt, t, l, 1, learned(0, []int{0, 1}, 1))
}

func TestNoneOfTheConflictIsOfTheLevel(tt *testing.T) {
	t := made(tt, 6, assign(10, 0), decide(0), assign(2, 1), decide(4), decide(6), assign(9, 2))
	for _, c := range [][]int{{}, nil, {1}, {3}, {5}, {1, 3}, {1, 3, 5}, {11}, {11, 1}, {11, 5, 3}, {5, 5}} {
		learnsNothing(tt, t, [][]int{c}, 0)
		learnsNothing(tt, t, [][]int{{7}, {8}, {1}, c, {7, 8}}, 3)
	}
	learns(tt, t, [][]int{{7}}, 0, learned(0, []int{3}, 7))
}

func TestConflictsThatAreNone(tt *testing.T) {
	// 12 at level 0, 0 at 1, 2 and 4 at 2; 3 and 5 are not assigned.
	t := made(tt, 7, assign(12, 0), decide(0), decide(2), assign(4, 0))
	good := []int{3, 1, 13}
	learns(tt, t, [][]int{{4, 3}, good}, 1, learned(1, []int{0, 1}, 3, 1))
	wrong := append([]int{0, 2, 4, 12, 6, 7, 10, 11, 14, 15, 16, 17}, noLits...)
	for _, x := range wrong {
		for place := range len(good) + 1 {
			c := slices.Insert(slices.Clone(good), place, x)
			learnsNothing(tt, t, [][]int{{4, 3}, c}, 1)
		}
		learnsNothing(tt, t, [][]int{{x}}, 0)
		learnsNothing(tt, t, [][]int{{x, x}}, 0)
		learnsNothing(tt, t, [][]int{{4, 3}, {5, 3, x}}, 1)
	}
}

func TestReasonsThatAreNoClauses(tt *testing.T) {
	for _, r := range append([]int{3, 4, 5, 100}, noNumbers...) {
		l := [][]int{{1, 2}, {3, 5}, {5, 1, 9}}
		t := made(tt, 5, decide(8), decide(0), assign(2, 0), assign(4, r))
		learnsNothing(tt, t, l, 1)
		learnsNothing(tt, t, l, 2)
		// Replaced second: the first reason is one.
		l = [][]int{{5, 6}, {7, 3}, {7, 5}}
		t = made(tt, 5, decide(8), decide(0), assign(2, r), assign(4, r), assign(6, 0))
		learnsNothing(tt, t, l, 1)
		learns(tt, t, l, 2, learned(0, []int{2, 3}, 5))
	}
}

// TestADecisionThatMustBeReplaced: what was decided has no reason; it is the
// last of its level that is come to, so that two must be left there.
func TestADecisionThatMustBeReplaced(tt *testing.T) {
	// A reason has what was not come to yet, and 0 is the last one.
	l := [][]int{{2, 5}, {4, 1}, {1, 3}}
	t := made(tt, 3, decide(0), assign(2, 0), assign(4, 1))
	learnsNothing(tt, t, l, 2)
	// With clause -1 it would have one.
	learnsNothing(tt, t, [][]int{{2, 5}, {4, 1}, {1, 3}, {0}}, 2)
}

func TestReasonsWithoutTheirLiteral(tt *testing.T) {
	for _, c := range [][]int{nil, {}, {1}, {9}, {3}, {5}, {1, 5}, {3, 1}, {1, 9, 3}, {11}, {1, 11}} {
		l := [][]int{{1, 2}, c, {5, 3}, {5, 3, 1, 9}}
		t := made(tt, 6, assign(10, 0), decide(8), decide(0), assign(2, 0), assign(4, 1))
		learnsNothing(tt, t, l, 2)
		learnsNothing(tt, t, l, 3)
	}
	// It may stand anywhere in it.
	for _, c := range [][]int{{4, 1, 9}, {1, 4, 9}, {9, 1, 4}, {4, 9, 1, 4}} {
		l := [][]int{{1, 2}, c, {5, 3}}
		t := made(tt, 6, assign(10, 0), decide(8), decide(0), assign(2, 0), assign(4, 1))
		learns(tt, t, l, 2, learned(1, []int{0, 1, 2, 4}, 1, 9))
	}
}

func TestReasonsWithAnotherThatDoesNotFail(tt *testing.T) {
	good := []int{4, 1, 9, 11}
	// 6 holds behind 4; 12 and 13 are not assigned; 10 is at level 0.
	wrong := append([]int{0, 2, 6, 8, 10, 12, 13, 14, 15, 16}, noLits...)
	row := []put{assign(10, 0), decide(8), decide(0), assign(2, 0), assign(4, 1), assign(6, 0)}
	for _, x := range wrong {
		for place := range len(good) + 1 {
			c := slices.Insert(slices.Clone(good), place, x)
			t := made(tt, 7, row...)
			learnsNothing(tt, t, [][]int{{1, 2}, c, {5, 3}}, 2)
			// Of a reason that is not asked it does not matter.
			learns(tt, t, [][]int{{1, 2}, c, {5, 9}}, 2, learned(1, []int{2, 4}, 5, 9))
		}
	}
	t := made(tt, 7, row...)
	learns(tt, t, [][]int{{1, 2}, good, {5, 3}}, 2, learned(1, []int{0, 1, 2, 4}, 1, 9))
	// The same in the second reason that is asked, and of one literal's Not.
	learnsNothing(tt, t, [][]int{{1, 2, 12}, good, {5, 3}}, 2)
	learnsNothing(tt, t, [][]int{{1, 2, 8}, good, {5, 3}}, 2)
}

// TestNoneIsLeftAndYetMoreThanOneWasMet: reasons that have literals which came
// later than what they are the reasons of. Those are not come to (again) where
// the last one assigned is replaced first.
func TestNoneIsLeftAndYetMoreThanOneWasMet(tt *testing.T) {
	// 2 and 4 both for 6, which came behind them: they are replaced, and none
	// is left ahead of them.
	row := []put{decide(0), assign(2, 0), assign(4, 1), assign(6, 2)}
	t := made(tt, 4, row...)
	for _, why := range [][]int{{6, 1}, {6, 3}, {6, 5}, {6}, {6, 3, 5}, {}} {
		learnsNothing(tt, t, [][]int{{2, 7}, {4, 7}, why, {3, 5}}, 3)
		learnsNothing(tt, t, [][]int{{2, 7, 5}, {4, 7, 3}, why, {3, 5}}, 3)
		learnsNothing(tt, t, [][]int{{2, 1}, {4, 7}, why, {3, 5}}, 3)
		learnsNothing(tt, t, [][]int{{2}, {4, 7}, why, {3, 5}}, 3)
	}
	// Replaced already, and met again.
	for _, why := range [][]int{{6, 5}, {6, 3, 5}, {6, 3}, {6, 1}, {6}} {
		learnsNothing(tt, t, [][]int{{2, 1}, {4, 7}, why, {3, 5, 7}}, 3)
		learnsNothing(tt, t, [][]int{{2}, {4, 7, 3}, why, {3, 5, 7}}, 3)
	}
	// Its own Not stands in a reason.
	learnsNothing(tt, t, [][]int{{2, 1}, {4, 5, 3}, {6, 3}, {3, 5}}, 3)
	learnsNothing(tt, t, [][]int{{2, 3}, {4, 3}, {6, 3}, {3, 1}}, 3)
	// What goes round in a circle does not follow: 2 and 4 may both be false.
	learnsNothing(tt, made(tt, 3, decide(0), assign(2, 0), assign(4, 1)), [][]int{{2, 5}, {4, 3}, {1, 3, 5}}, 2)
	// One that came later is of no harm where it is the one that is left.
	learns(tt, t, [][]int{{2, 7}, {4, 7}, {6, 1}, {7}}, 3, learned(0, []int{3}, 7))
	// And a reason that has it is of none where it is not asked.
	learns(tt, t, [][]int{{2, 7}, {4, 3}, {6, 3}, {5, 7}}, 3, learned(0, []int{1, 2, 3}, 3))
}

// Promise 12.1: Glue.

func glues(tt *testing.T, t *trail.Trail, want int, l ...int) {
	tt.Helper()
	s, c := take(t), slices.Clone(l)
	for range 2 {
		if got := Glue(t, l); got != want {
			tt.Fatalf("Glue(%v, %v) = %d; want %d", s, c, got, want)
		}
	}
	if !take(t).is(s) || !slices.Equal(l, c) {
		tt.Fatalf("Glue changed %v, %v to %v, %v", s, c, take(t), l)
	}
	if got := plainGlue(t, l); got != want {
		tt.Fatalf("the plain counterpart of Glue(%v, %v) tells %d; want %d", s, c, got, want)
	}
}

func TestGlue(tt *testing.T) {
	// 0 and 3 at level 0, 4 and 6 at 1, 9 and 10 at 2, 12 at 3; 7 and 8 are not assigned.
	t := made(tt, 9, assign(0, 1), assign(3, 2), decide(4), assign(6, 3), decide(9), assign(10, 5), decide(12))
	glues(tt, t, 0)
	glues(tt, t, 1, 4)
	glues(tt, t, 1, 5)
	glues(tt, t, 1, 4, 6)
	glues(tt, t, 1, 5, 7)
	glues(tt, t, 1, 8, 11)
	glues(tt, t, 1, 12)
	glues(tt, t, 2, 5, 8)
	glues(tt, t, 2, 13, 7, 5, 12)
	glues(tt, t, 3, 13, 8, 5)
	glues(tt, t, 3, 4, 6, 9, 10, 12)
	glues(tt, t, 3, 12, 10, 9, 6, 4, 3, 0)
	// Of level 0 alone, and beside others.
	glues(tt, t, 0, 0)
	glues(tt, t, 0, 1, 2, 3)
	glues(tt, t, 1, 1, 2, 10)
	// Not assigned.
	glues(tt, t, 0, 14)
	glues(tt, t, 0, 15, 16, 17, 14)
	glues(tt, t, 1, 15, 4, 17)
	// A literal and its Not, and one that is there twice.
	glues(tt, t, 1, 4, 5)
	glues(tt, t, 2, 9, 4, 8, 5)
	glues(tt, t, 1, 4, 4, 4)
	glues(tt, t, 2, 13, 4, 13, 4)
	glues(tt, t, 0, 0, 1, 14, 15)
	// Behind a way Back fewer are assigned.
	t.Back(1)
	glues(tt, t, 1, 4, 6, 9, 10, 12)
	t.Back(0)
	glues(tt, t, 0, 4, 6, 9, 10, 12, 0, 3)
	glues(tt, trail.New(0), 0, 0, 1, 2)
	glues(tt, trail.New(3), 0, 0, 1, 2)
}

func TestGlueOfWrongLiterals(tt *testing.T) {
	t := made(tt, 3, assign(4, 0), decide(0), decide(2))
	for _, x := range append([]int{6, 7, 8, 9}, noLits...) {
		glues(tt, t, 0, x)
		glues(tt, t, 0, x, x)
		glues(tt, t, 1, x, 1)
		glues(tt, t, 2, 0, x, 3, x)
		glues(tt, trail.New(0), 0, x)
	}
	glues(tt, t, 0, noLits...)
	glues(tt, t, 2, append([]int{0, 2}, noLits...)...)
}

func TestGlueOfManyLevels(tt *testing.T) {
	random := rand.New(rand.NewSource(2))
	for range 300 {
		vars := 1 + random.Intn(60)
		t := trail.New(vars)
		for _, v := range random.Perm(vars)[:random.Intn(vars+1)] {
			if random.Intn(2) == 0 {
				t.Decide(2*v + random.Intn(2))
			} else {
				t.Assign(2*v+random.Intn(2), random.Intn(9)-4)
			}
		}
		for range 10 {
			l := make([]int, random.Intn(20))
			for i := range l {
				l[i] = random.Intn(2*vars+6) - 3
			}
			glues(tt, t, plainGlue(t, l), l...)
		}
	}
}

// Both calls, on wrong things.

func TestNil(tt *testing.T) {
	for _, l := range [][][]int{nil, {}, {{}}, {nil}, {{1, 2}, {1, 3}}, {{0}}, noLitClauses()} {
		for _, conflict := range append([]int{0, 1, 2}, noNumbers...) {
			if got := learn(nil, l, conflict); !got.is(answer{}) {
				tt.Fatalf("Learn(nil, %v, %d) = %v", l, conflict, got)
			}
		}
	}
	for _, l := range append([][]int{nil, {}, {0}, {1, 2, 3}}, noLitClauses()...) {
		if got := Glue(nil, l); got != 0 {
			tt.Fatalf("Glue(nil, %v) = %d", l, got)
		}
		if got := Glue(new(trail.Trail), l); got != 0 {
			tt.Fatalf("Glue of the zero Trail, %v = %d", l, got)
		}
	}
}

func noLitClauses() [][]int {
	var l [][]int
	for _, x := range noLits {
		l = append(l, []int{x})
	}
	return append(l, noLits)
}

func TestClausesThatAreNil(tt *testing.T) {
	t := made(tt, 3, decide(0), assign(2, 0), assign(4, 1))
	learnsNothing(tt, t, [][]int{nil}, 0)
	learnsNothing(tt, t, [][]int{nil, nil, nil}, 2)
	learnsNothing(tt, t, [][]int{nil, nil, {3, 5}}, 2)
	learnsNothing(tt, t, [][]int{nil, {4, 3, 1}, {3, 5}}, 2)
	learns(tt, t, [][]int{nil, {4, 3}, {3, 5}}, 2, learned(0, []int{1, 2}, 3))
	learns(tt, t, [][]int{nil, nil, {5}}, 2, learned(0, []int{2}, 5))
}

// TestNewMemory: what is told is nobody else's.
func TestNewMemory(tt *testing.T) {
	t, l := ladder(tt)
	l = append(l, []int{15, 12, 1, 3}, []int{9, 1, 3, 6})
	for _, conflict := range []int{5, 6} {
		s, c := take(t), deep(l)
		want := plainLearn(t, l, conflict)
		a, b := learn(t, l, conflict), learn(t, l, conflict)
		for i := range a.learned {
			a.learned[i] = -99
		}
		if !slices.Equal(a.vars, want.vars) {
			tt.Fatalf("the lists of one answer share memory: %v; want %v", a.vars, want.vars)
		}
		for i := range a.vars {
			a.vars[i] = -98
		}
		_ = append(a.learned, 1, 2, 3)
		_ = append(a.vars, 1, 2, 3)
		if !b.is(want) || !learn(t, l, conflict).is(want) || !take(t).is(s) || !same(l, c) {
			tt.Fatalf("what was told shares memory: %v, %v, %v; want %v", b, take(t), l, want)
		}
	}
}

// Rows of decisions and what follows, up to a conflict.

// game is clauses with a trail, on which literals are decided, and what follows
// by clauses of one literal is assigned, each for its clause.
type game struct {
	vars    int
	clauses [][]int
	t       *trail.Trail
	random  *rand.Rand
}

// newGame has clauses of two to longest literals. Few have one, and few a
// literal twice: with many such there is no conflict above level 0.
func newGame(random *rand.Rand, vars, clauses, longest int) *game {
	g := &game{vars: vars, t: trail.New(vars), random: random}
	for range clauses {
		n := 2 + random.Intn(longest-1)
		if random.Intn(10*vars) == 0 {
			n = 1
		}
		var c []int
		for len(c) < min(n, vars) {
			if v := random.Intn(vars); !slices.Contains(c, 2*v) && !slices.Contains(c, 2*v+1) {
				c = append(c, 2*v+random.Intn(2))
			}
		}
		if random.Intn(10) == 0 {
			c = append(c, c[random.Intn(len(c))])
		}
		g.clauses = append(g.clauses, c)
	}
	return g
}

// follow assigns all that follows; the number of a clause of which no literal
// holds, or -1.
func (g *game) follow() int {
	for again := true; again; {
		again = false
		for _, i := range g.random.Perm(len(g.clauses)) {
			free, held := map[int]bool{}, false
			for _, x := range g.clauses[i] {
				held = held || g.t.Value(x) == 1
				if g.t.Value(x) == 0 {
					free[x] = true
				}
			}
			if held || len(free) > 1 {
				continue
			}
			if len(free) == 0 {
				return i
			}
			for x := range free {
				again = g.t.Assign(x, i)
			}
		}
	}
	return -1
}

// decideOne decides a literal of those that are not assigned; false, if there
// is none.
func (g *game) decideOne() bool {
	for _, v := range g.random.Perm(g.vars) {
		if g.t.Decide(2*v + g.random.Intn(2)) {
			return true
		}
	}
	return false
}

// play goes on till there is a conflict above level 0, and tells its number;
// -1, if none comes.
func (g *game) play() int {
	for {
		if c := g.follow(); c >= 0 {
			if g.t.Levels() == 0 {
				return -1
			}
			return c
		}
		if !g.decideOne() {
			return -1
		}
	}
}

// compares asks of a conflict that the answer is that of the plain counterpart,
// and what follows from it.
func compares(tt *testing.T, t *trail.Trail, l [][]int, conflict int) answer {
	tt.Helper()
	got, want := asked(tt, t, l, conflict), plainLearn(t, l, conflict)
	if !got.is(want) {
		tt.Fatalf("Learn(%v, %v, %d) = %v; want %v", take(t), l, conflict, got, want)
	}
	follows(tt, t, l, conflict, got)
	return got
}

func TestSmallGames(tt *testing.T) {
	random := rand.New(rand.NewSource(3))
	conflicts, long := 0, 0
	for range 20000 {
		vars := 2 + random.Intn(10)
		g := newGame(random, vars, 2*vars+random.Intn(3*vars), 2+random.Intn(3))
		c := g.play()
		if c < 0 {
			continue
		}
		a := compares(tt, g.t, g.clauses, c)
		if !a.ok {
			tt.Fatalf("the conflict %d of %v, %v teaches nothing", c, take(g.t), g.clauses)
		}
		if !rup.Step(g.clauses, a.learned) {
			tt.Fatalf("%v has no Step by %v", a.learned, g.clauses)
		}
		conflicts++
		if len(a.learned) > 1 {
			long++
		}
		for i := range g.clauses {
			compares(tt, g.t, g.clauses, i)
		}
	}
	if conflicts < 3000 || long < 500 {
		tt.Fatalf("only %d conflicts, of which %d teach more than a literal", conflicts, long)
	}
}

// TestGamesThatGoOn adds what is learned, goes Back, and plays on: then clauses
// that were learned are reasons, and conflicts.
func TestGamesThatGoOn(tt *testing.T) {
	random := rand.New(rand.NewSource(4))
	conflicts := 0
	for range 150 {
		vars := 10 + random.Intn(50)
		g := &game{vars: vars, t: trail.New(vars), random: random}
		for range int(4.3 * float64(vars)) {
			p := random.Perm(vars)
			g.clauses = append(g.clauses, []int{2*p[0] + random.Intn(2), 2*p[1] + random.Intn(2), 2*p[2] + random.Intn(2)})
		}
		for range 20 {
			c := g.play()
			if c < 0 {
				break
			}
			conflicts++
			a := compares(tt, g.t, g.clauses, c)
			if !a.ok || !rup.Step(g.clauses, a.learned) {
				tt.Fatalf("the conflict %d of %v, %v teaches %v", c, take(g.t), g.clauses, a)
			}
			g.clauses = append(g.clauses, a.learned)
			g.t.Back(a.level)
			if !g.t.Assign(a.learned[0], len(g.clauses)-1) {
				tt.Fatalf("%v: the first can not hold behind Back(%d)", a.learned, a.level)
			}
		}
	}
	if conflicts < 1500 {
		tt.Fatalf("only %d conflicts", conflicts)
	}
}

func TestLargerGames(tt *testing.T) {
	random := rand.New(rand.NewSource(5))
	conflicts := 0
	for i := range 200 {
		vars := 100 + random.Intn(400)
		if i%50 == 0 {
			vars = pageSize + 3000
		}
		g := newGame(random, vars, 2*vars+random.Intn(2*vars), 3)
		c := g.play()
		if c < 0 {
			continue
		}
		conflicts++
		if a := compares(tt, g.t, g.clauses, c); !a.ok {
			tt.Fatalf("the conflict %d teaches nothing", c)
		}
	}
	if conflicts < 100 {
		tt.Fatalf("only %d conflicts", conflicts)
	}
}

// TestRandomTrails: literals that are assigned in any order, for clauses that
// may have come to be by them or may not, and for numbers of all kinds.
func TestRandomTrails(tt *testing.T) {
	random := rand.New(rand.NewSource(6))
	count := map[bool]int{}
	for range 60000 {
		vars := 1 + random.Intn(7)
		t := trail.New(vars)
		clauses := 1 + random.Intn(2*vars)
		order := random.Perm(vars)
		truths := make([]int, vars)
		for i := range truths {
			truths[i] = 2*i + random.Intn(2)
		}
		for i, v := range order[:random.Intn(vars)+1] {
			switch {
			case random.Intn(4) == 0 || i == 0 && random.Intn(3) > 0:
				t.Decide(truths[v])
			case random.Intn(12) == 0:
				t.Assign(truths[v], noNumbers[random.Intn(len(noNumbers))])
			case random.Intn(12) == 0:
				t.Assign(truths[v], random.Intn(clauses+3)-1)
			default:
				t.Assign(truths[v], v%clauses)
			}
		}
		var l [][]int
		for i := range clauses {
			l = append(l, randomClause(random, truths, i))
		}
		for conflict := -1; conflict <= clauses; conflict++ {
			a := compares(tt, t, l, conflict)
			count[a.ok]++
		}
	}
	if count[true] < 10000 || count[false] < 10000 {
		tt.Fatalf("%v", count)
	}
}

// randomClause has the truth of variable i, or not, and mostly such as fail.
func randomClause(random *rand.Rand, truths []int, i int) []int {
	var c []int
	if random.Intn(3) > 0 {
		c = append(c, truths[i%len(truths)])
	}
	for range random.Intn(4) {
		x := truths[random.Intn(len(truths))] ^ 1
		switch random.Intn(40) {
		case 0:
			x ^= 1
		case 1:
			x = noLits[random.Intn(len(noLits))]
		case 2:
			x = 2*len(truths) + random.Intn(4)
		}
		c = append(c, x)
	}
	random.Shuffle(len(c), func(i, j int) { c[i], c[j] = c[j], c[i] })
	return c
}

// TestAllReasonsOfFour: 0, 2, 4 and 6 hold at one level, each but the first for
// any clause of it and the Nots of the others, with all conflicts.
func TestAllReasonsOfFour(tt *testing.T) {
	nots := []int{1, 3, 5, 7}
	pick := func(from []int, mask int) []int {
		var c []int
		for i, x := range from {
			if mask>>i&1 == 1 {
				c = append(c, x)
			}
		}
		return c
	}
	t := made(tt, 4, decide(0), assign(2, 0), assign(4, 1), assign(6, 2))
	count := 0
	for masks := range 1 << 12 {
		l := [][]int{append(pick(nots, masks&15), 2), append(pick(nots, masks>>4&15), 4), append(pick(nots, masks>>8), 6), nil}
		for conflict := range 1 << 4 {
			l[3] = pick(nots, conflict)
			got, want := learn(t, l, 3), plainLearn(t, l, 3)
			if !got.is(want) {
				tt.Fatalf("Learn(%v, %v, 3) = %v; want %v", take(t), l, got, want)
			}
			if got.ok {
				count++
				follows(tt, t, l, 3, got)
			}
		}
	}
	if count < 10000 {
		tt.Fatalf("only %d of them teach something", count)
	}
}

// Very many.

func TestAsManyVariablesAsThereMayBe(tt *testing.T) {
	const n = api.MaxVars
	t := trail.New(n)
	t.Decide(2*n - 2)
	// From the last variable on down, each by the one ahead of it.
	l := make([][]int, n)
	for v := n - 2; v >= 0; v-- {
		l[v] = []int{2*v + 3, 2 * v}
		t.Assign(2*v, v)
	}
	l[n-1] = []int{1, 2*n - 1}
	a := learn(t, l, n-1)
	if !a.ok || !slices.Equal(a.learned, []int{2*n - 1}) || a.level != 0 || len(a.vars) != n {
		tt.Fatalf("%v, %d, %d variables, %v", a.learned, a.level, len(a.vars), a.ok)
	}
	for i, v := range a.vars {
		if i != v {
			tt.Fatalf("%d stands at %d of the variables", v, i)
		}
	}
	l[n-1] = []int{1, 1001}
	if a := learn(t, l, n-1); !slices.Equal(a.learned, []int{1001}) || len(a.vars) != 501 {
		tt.Fatalf("%v, %d variables", a.learned, len(a.vars))
	}
	if got := Glue(t, []int{0, 2*n - 1, 2 * n}); got != 1 {
		tt.Fatalf("Glue = %d", got)
	}
}

func TestAsManyLevelsAsThereMayBe(tt *testing.T) {
	const n = api.MaxVars
	t := trail.New(n)
	var conflict, want, vars []int
	for v := range n {
		t.Decide(2*v + v%2)
		conflict = append(conflict, (2*v+v%2)^1)
		vars = append(vars, v)
	}
	want = slices.Clone(conflict)
	slices.Reverse(want)
	if a := learn(t, [][]int{conflict}, 0); !a.is(learned(n-1, vars, want...)) {
		tt.Fatalf("%d literals, %d, %d variables, %v", len(a.learned), a.level, len(a.vars), a.ok)
	}
	if got := Glue(t, conflict); got != n {
		tt.Fatalf("Glue = %d; want %d", got, n)
	}
	if got := Glue(t, conflict[n-1:]); got != 1 {
		tt.Fatalf("Glue = %d; want 1", got)
	}
	if a := learn(t, [][]int{conflict[:n-1]}, 0); !a.is(answer{}) {
		tt.Fatalf("without one of the level: %d literals, %d, %v", len(a.learned), a.level, a.ok)
	}
}

// TestNeighboursOfPages: marks stand where they were set, at both ends of pages.
func TestNeighboursOfPages(tt *testing.T) {
	vars := []int{0, 1, pageSize - 1, pageSize, pageSize + 1, 2*pageSize - 1, 2 * pageSize, api.MaxVars - pageSize - 1,
		api.MaxVars - pageSize, api.MaxVars - 2, api.MaxVars - 1}
	for i, v := range vars {
		for _, u := range vars[i+1:] {
			// v is decided, u follows from it, and another one at level 1 is met.
			l := [][]int{{2*v + 1, 2 * u, 11}, {2*u + 1, 2*v + 1}}
			t := made(tt, api.MaxVars, decide(10), decide(2*v), assign(2*u, 0))
			want := []int{v, u, 5}
			slices.Sort(want)
			if got := learn(t, l, 1); !got.is(learned(1, want, 2*v+1, 11)) {
				tt.Fatalf("Learn(%v, %v, 1) = %v", take(t), l, got)
			}
		}
	}
}

func TestAtTheSameTime(tt *testing.T) {
	var all sync.WaitGroup
	wrong := make([]error, 8)
	for i := range wrong {
		all.Add(1)
		go func() {
			defer all.Done()
			random := rand.New(rand.NewSource(int64(i)))
			for range 300 {
				g := newGame(random, 12, 40, 3)
				c := g.play()
				if c < 0 {
					continue
				}
				got, want := learn(g.t, g.clauses, c), plainLearn(g.t, g.clauses, c)
				if !got.is(want) || Glue(g.t, got.learned) != plainGlue(g.t, got.learned) {
					wrong[i] = fmt.Errorf("Learn(%v, %v, %d) = %v; want %v", take(g.t), g.clauses, c, got, want)
					return
				}
			}
		}()
	}
	all.Wait()
	for _, err := range wrong {
		if err != nil {
			tt.Fatal(err)
		}
	}
}
