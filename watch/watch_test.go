package watch

import (
	"fmt"
	"math"
	"math/rand"
	"slices"
	"sync"
	"testing"

	"breakwater/api"
	"breakwater/trail"
	"breakwater/unit"
)

// noLits are numbers that no watch has as literals, whatever its vars.
var noLits = []int{-1, -2, -3, -4, -2 * api.MaxVars, math.MinInt32, math.MinInt + 1, math.MinInt,
	2 * api.MaxVars, 2*api.MaxVars + 1, 2*api.MaxVars + 2, 1 << 32, 1<<32 + 1, 1 << 40, 1 << 62, math.MaxInt - 1, math.MaxInt}

// noNumbers are such that no clause has.
var noNumbers = []int{-1, -2, -3, -1 << 20, math.MinInt32, math.MinInt + 1, math.MinInt,
	1 << 40, 1 << 62, math.MaxInt32, math.MaxInt - 1, math.MaxInt}

// wrongNumbers are no numbers of variables that a watch may have.
var wrongNumbers = []int{-1, -2, -api.MaxVars, math.MinInt32, math.MinInt + 1, math.MinInt,
	api.MaxVars + 1, api.MaxVars + 2, 2 * api.MaxVars, 1 << 40, math.MaxInt - 1, math.MaxInt}

// plain is what the chapter says, word by word: a list of all clauses that
// ever were, which it goes through again and again.
type plain struct {
	vars  int
	lists [][]int
	there []bool
}

func newPlain(vars int) *plain {
	if vars < 0 || vars > api.MaxVars {
		vars = 0
	}
	return &plain{vars: vars}
}

func (p *plain) add(l []int) (int, api.Errno) {
	for _, x := range l {
		if x < 0 || x>>1 >= p.vars {
			return 0, api.ErrVar
		}
	}
	p.lists = append(p.lists, slices.Clone(l))
	p.there = append(p.there, true)
	return len(p.lists) - 1, api.OK
}

func (p *plain) has(i int) bool { return i >= 0 && i < len(p.there) && p.there[i] }

func (p *plain) remove(i int) bool {
	if !p.has(i) {
		return false
	}
	p.there[i] = false
	return true
}

func (p *plain) clause(i int) []int {
	if !p.has(i) {
		return nil
	}
	return p.lists[i]
}

func (p *plain) clauses() [][]int {
	var all [][]int
	for i, l := range p.lists {
		if p.there[i] {
			all = append(all, l)
		}
	}
	return all
}

// holding tells what holds behind a Run where set held ahead of it; false, if
// there comes to be a clause of which no literal holds.
func (p *plain) holding(set []int) (map[int]bool, bool) {
	holds := map[int]bool{}
	for _, x := range set {
		holds[x] = true
	}
	all := p.clauses()
	for again := true; again; {
		again = false
		for _, l := range all {
			free, held := map[int]bool{}, false
			for _, x := range l {
				held = held || holds[x]
				if !holds[x] && !holds[x^1] {
					free[x] = true
				}
			}
			if held || len(free) > 1 {
				continue
			}
			if len(free) == 0 {
				return nil, false
			}
			for x := range free {
				holds[x], again = true, true
			}
		}
	}
	return holds, true
}

// pair is a watch with its trail and its plain counterpart.
type pair struct {
	tt *testing.T
	w  *Watch
	t  *trail.Trail
	p  *plain
	// row is what was done to the watch and the trail.
	row []call
}

func newPair(tt *testing.T, vars int) *pair {
	tt.Helper()
	w := New(vars)
	if w == nil {
		tt.Fatalf("New(%d) = nil", vars)
	}
	return &pair{tt: tt, w: w, t: trail.New(vars), p: newPlain(vars)}
}

// call is one of those that change a watch or its trail.
type call struct {
	kind, n, reason int
	lits            []int
}

const (
	add = iota
	remove
	assign
	decide
	back
	run
)

func (c call) String() string {
	switch c.kind {
	case add:
		return fmt.Sprintf("Add(%d)", c.lits)
	case remove:
		return fmt.Sprintf("Remove(%d)", c.n)
	case assign:
		return fmt.Sprintf("Assign(%d, %d)", c.n, c.reason)
	case decide:
		return fmt.Sprintf("Decide(%d)", c.n)
	case back:
		return fmt.Sprintf("Back(%d)", c.n)
	}
	return "Run()"
}

// answer is what a call told.
type answer struct {
	n  int
	e  api.Errno
	ok bool
}

func (c call) of(w *Watch, t *trail.Trail) answer {
	var a answer
	switch c.kind {
	case add:
		a.n, a.e = w.Add(t, c.lits)
	case remove:
		a.ok = w.Remove(c.n)
	case assign:
		a.ok = t.Assign(c.n, c.reason)
	case decide:
		a.ok = t.Decide(c.n)
	case back:
		a.n = len(t.Back(c.n))
	case run:
		a.n, a.ok = w.Run(t)
	}
	return a
}

func (b *pair) fatalf(form string, args ...any) {
	b.tt.Helper()
	from := max(0, len(b.row)-40)
	b.tt.Fatalf(form+"\nof %d variables, behind %d calls and %v", append(args, b.p.vars, from, b.row[from:])...)
}

// does makes a call, and asks that it does what it must.
func (b *pair) does(c call) answer {
	b.tt.Helper()
	b.row = append(b.row, c)
	ahead := slices.Clone(b.t.Lits())
	level := b.t.Levels()
	given := slices.Clone(c.lits)
	got := c.of(b.w, b.t)
	switch c.kind {
	case add:
		if n, e := b.p.add(given); got.n != n || got.e != e {
			b.fatalf("%v = %d, %d; want %d, %d", c, got.n, got.e, n, e)
		}
		if !slices.Equal(c.lits, given) {
			b.fatalf("Add changed %v to %v", given, c.lits)
		}
	case remove:
		if ok := b.p.remove(c.n); got.ok != ok {
			b.fatalf("%v = %v; want %v", c, got.ok, ok)
		}
	case run:
		b.ran(ahead, got)
	}
	if c.kind == add || c.kind == remove {
		if !slices.Equal(b.t.Lits(), ahead) || b.t.Levels() != level {
			b.fatalf("%v changed the trail from %v to %v", c, ahead, b.t.Lits())
		}
	}
	if c.kind == run && b.t.Levels() != level {
		b.fatalf("Run changed the level from %d to %d", level, b.t.Levels())
	}
	if want := len(b.p.clauses()); b.w.Len() != want {
		b.fatalf("Len() = %d; want %d", b.w.Len(), want)
	}
	return got
}

// ran asks that a Run did what it must, where those of ahead held ahead of it.
func (b *pair) ran(ahead []int, got answer) {
	b.tt.Helper()
	now := b.t.Lits()
	if len(now) < len(ahead) || !slices.Equal(now[:len(ahead)], ahead) {
		b.fatalf("Run changed %v to %v", ahead, now)
	}
	b.reasons(now, len(ahead))
	want, ok := b.p.holding(ahead)
	if got.ok != ok {
		b.fatalf("Run() = %d, %v where %v held; want %v", got.n, got.ok, ahead, ok)
	}
	closed, closes := unit.Close(b.p.clauses(), ahead)
	if closes != ok {
		b.fatalf("chapter 6's Close is %v; Run %v", closes, ok)
	}
	if !ok {
		b.conflicts(got.n)
		return
	}
	if got.n != -1 {
		b.fatalf("Run() = %d, true", got.n)
	}
	sorted := slices.Sorted(slices.Values(now))
	if len(want) != len(now) || !slices.Equal(sorted, closed) {
		b.fatalf("behind Run hold %v; want %v", sorted, closed)
	}
	for _, x := range now {
		if !want[x] {
			b.fatalf("behind Run %d holds", x)
		}
	}
}

// reasons asks that each literal from that place on was assigned for a clause
// that has it, all others of which did not hold ahead of it.
func (b *pair) reasons(now []int, from int) {
	b.tt.Helper()
	place := map[int]int{}
	for i, x := range now {
		place[x] = i
	}
	for i := from; i < len(now); i++ {
		x := now[i]
		reason := b.t.Reason(x / 2)
		if !b.p.has(reason) || b.t.Level(x/2) != b.t.Levels() || !slices.Contains(b.p.lists[reason], x) {
			b.fatalf("%d was assigned at level %d for %d, which is %v", x, b.t.Level(x/2), reason, b.p.clause(reason))
		}
		for _, y := range b.p.lists[reason] {
			if at, fails := place[y^1]; y != x && (!fails || at >= i) {
				b.fatalf("%d was assigned for %d, %v, ahead of %d", x, reason, b.p.lists[reason], y^1)
			}
		}
	}
}

// conflicts asks that the clause i is there, and that no literal of it holds or
// may.
func (b *pair) conflicts(i int) {
	b.tt.Helper()
	if !b.p.has(i) {
		b.fatalf("Run() = %d, false, which is no clause", i)
	}
	for _, x := range b.p.lists[i] {
		if b.t.Value(x) != -1 {
			b.fatalf("Run() = %d, false: %v; the Value of %d is %d", i, b.p.lists[i], x, b.t.Value(x))
		}
	}
}

// clauses asks that Clause tells the literals of each number that was told, and
// none of others.
func (b *pair) clauses() {
	b.tt.Helper()
	for i := range b.p.lists {
		got := slices.Sorted(slices.Values(b.w.Clause(i)))
		want := slices.Sorted(slices.Values(b.p.clause(i)))
		if !slices.Equal(got, want) {
			b.fatalf("Clause(%d) has %v; want %v", i, got, want)
		}
	}
	for _, i := range append([]int{len(b.p.lists), len(b.p.lists) + 1, 2*len(b.p.lists) + 3}, noNumbers...) {
		if got := b.w.Clause(i); len(got) != 0 {
			b.fatalf("Clause(%d) = %v", i, got)
		}
	}
}

func (b *pair) add(l ...int) int {
	b.tt.Helper()
	return b.does(call{kind: add, lits: l}).n
}

// addAll adds clauses one behind the other.
func (b *pair) addAll(l ...[]int) {
	b.tt.Helper()
	for _, c := range l {
		b.add(c...)
	}
}

func (b *pair) remove(i int) bool {
	b.tt.Helper()
	return b.does(call{kind: remove, n: i}).ok
}

func (b *pair) assign(l ...int) {
	b.tt.Helper()
	for _, x := range l {
		if !b.does(call{kind: assign, n: x, reason: -1}).ok {
			b.fatalf("Assign(%d) = false", x)
		}
	}
}

// decide decides all these, a level each.
func (b *pair) decide(l ...int) {
	b.tt.Helper()
	for _, x := range l {
		if !b.does(call{kind: decide, n: x}).ok {
			b.fatalf("Decide(%d) = false", x)
		}
	}
}

func (b *pair) back(level int) {
	b.tt.Helper()
	b.does(call{kind: back, n: level})
	if b.t.Levels() != level {
		b.fatalf("Levels() = %d", b.t.Levels())
	}
}

// runs asks that Run is true, that it assigns want, and that the next one
// assigns nothing.
func (b *pair) runs(want ...int) {
	b.tt.Helper()
	n := len(b.t.Lits())
	if got := b.does(call{kind: run}); got != (answer{n: -1, ok: true}) {
		b.fatalf("Run() = %d, %v", got.n, got.ok)
	}
	got := slices.Sorted(slices.Values(b.t.Lits()[n:]))
	if sorted := slices.Sorted(slices.Values(want)); !slices.Equal(got, sorted) {
		b.fatalf("Run assigned %v; want %v", got, sorted)
	}
	n = len(b.t.Lits())
	if got := b.does(call{kind: run}); got != (answer{n: -1, ok: true}) || len(b.t.Lits()) != n {
		b.fatalf("Run() = %d, %v, once more; %d hold, then %d", got.n, got.ok, n, len(b.t.Lits()))
	}
}

// fails asks that Run is false by one of these clauses.
func (b *pair) fails(want ...int) {
	b.tt.Helper()
	if got := b.does(call{kind: run}); got.ok || !slices.Contains(want, got.n) {
		b.fatalf("Run() = %d, %v; want one of %v", got.n, got.ok, want)
	}
}

// hasReason asks for which clause literal l holds.
func (b *pair) hasReason(l, want int) {
	b.tt.Helper()
	if v, r := b.t.Value(l), b.t.Reason(l/2); v != 1 || r != want {
		b.fatalf("%d has Value %d and the reason %d; want %d", l, v, r, want)
	}
}

// Promise 11.1: New.

func TestNewHasNoClauses(t *testing.T) {
	for _, vars := range []int{0, 1, 2, 3, 100, api.MaxVars - 1, api.MaxVars} {
		b := newPair(t, vars)
		if b.w.Len() != 0 {
			t.Fatalf("New(%d): Len() = %d", vars, b.w.Len())
		}
		b.clauses()
		b.runs()
		for _, i := range append([]int{0, 1}, noNumbers...) {
			if b.remove(i) {
				t.Fatalf("New(%d): Remove(%d) = true", vars, i)
			}
		}
		for _, l := range append([]int{2 * vars, 2*vars + 1, 2*vars + 2}, noLits...) {
			b.add(l)
		}
		if b.w.Len() != 0 {
			t.Fatalf("New(%d) has %d clauses of literals that are none", vars, b.w.Len())
		}
		if vars > 0 {
			b.add(2*vars - 1)
			b.runs(2*vars - 1)
			b.hasReason(2*vars-1, 0)
		}
		if vars > 1 {
			b.add(2*vars-2, 0)
			b.runs(0)
			b.hasReason(0, 1)
		}
		b.clauses()
	}
}

func TestNewOfAWrongNumberHasNoVariables(t *testing.T) {
	for _, vars := range wrongNumbers {
		b := newPair(t, vars)
		for _, l := range append([]int{0, 1, 2, 3, vars, 2 * vars, 2*vars - 1, 2*api.MaxVars - 1}, noLits...) {
			b.add(l)
			b.runs()
		}
		if b.w.Len() != 0 {
			t.Fatalf("New(%d) has %d clauses", vars, b.w.Len())
		}
		// The empty clause has no variables.
		if n := b.add(); n != 0 {
			t.Fatalf("New(%d): the number is %d", vars, n)
		}
		b.fails(0)
		b.remove(0)
		b.runs()
	}
}

func TestTheExample(t *testing.T) {
	b := newPair(t, 3)
	b.addAll([]int{1, 2}, []int{3, 4})
	b.assign(0)
	b.runs(2, 4)
	b.hasReason(0, -1)
	b.hasReason(2, 0)
	b.hasReason(4, 1)
}

// Promise 11.1: Add.

func TestAddNumbersClausesAsTheyCome(t *testing.T) {
	b := newPair(t, 5)
	for i, l := range [][]int{{1, 2}, {0}, {}, {9, 8, 7}, {1, 2}, {4, 4}, nil, {6, 7}} {
		if n := b.add(l...); n != i {
			t.Fatalf("Add %d has the number %d", i, n)
		}
		b.clauses()
	}
}

func TestAddOfWrongLiterals(t *testing.T) {
	for vars := range 4 {
		b := newPair(t, vars)
		for _, l := range append([]int{2 * vars, 2*vars + 1, 2*vars + 2, 2*vars + 3, 4*vars + 4}, noLits...) {
			b.add(l)
			b.add(l, l)
			if vars > 0 {
				b.add(0, l)
				b.add(l, 1)
				b.add(0, 1, l, 0, 2*vars-1)
			}
		}
		if b.w.Len() != 0 {
			t.Fatalf("%d clauses are there", b.w.Len())
		}
		b.clauses()
		b.runs()
		// None of them has used up a number, or assigns anything.
		if n := b.add(); n != 0 {
			t.Fatalf("the first number is %d", n)
		}
		b.add(2 * vars)
		if vars > 0 {
			if n := b.add(0, 2*vars-1); n != 1 {
				t.Fatalf("the second number is %d", n)
			}
		}
	}
}

func TestAddOfTheEmptyClause(t *testing.T) {
	for _, l := range [][]int{nil, {}} {
		b := newPair(t, 3)
		b.add(0, 2)
		b.add(l...)
		if got := b.w.Clause(1); len(got) != 0 {
			t.Fatalf("Clause(1) = %v", got)
		}
		b.fails(1)
		b.fails(1)
		b.decide(1)
		b.fails(1)
		b.back(0)
		b.fails(1)
		b.remove(1)
		b.runs()
		b.decide(1)
		b.runs(2)
		b.add()
		b.fails(2)
		b.remove(2)
		b.runs()
	}
}

func TestAddOfOneLiteral(t *testing.T) {
	for l := range 6 {
		for level := range 4 {
			for twice := range 3 {
				b := newPair(t, 6)
				b.decide([]int{6, 8, 10}[:level]...)
				c := make([]int, 1+twice)
				for i := range c {
					c[i] = l
				}
				b.add(c...)
				b.runs(l)
				b.hasReason(l, 0)
				// It is assigned again at each level that it is taken back to.
				for to := level - 1; to >= 0; to-- {
					b.back(to)
					b.runs(l)
					b.hasReason(l, 0)
				}
				b.decide(7)
				b.runs()
				b.back(0)
				b.runs()
			}
		}
	}
}

// A clause of one literal that does not hold, or holds already.
func TestAddOfOneLiteralThatIsAssigned(t *testing.T) {
	for _, c := range [][]int{{2}, {2, 2, 2}} {
		b := newPair(t, 3)
		b.decide(0, 3, 4)
		b.add(c...)
		b.fails(0)
		b.back(2)
		b.fails(0)
		b.back(1)
		b.runs(2)
		b.hasReason(2, 0)
		b.back(0)
		b.runs(2)
		b.decide(1)
		b.runs()

		b = newPair(t, 3)
		b.decide(0, 2, 4)
		b.add(c...)
		b.runs()
		b.back(2)
		b.runs()
		b.hasReason(2, -1)
		b.back(1)
		b.runs(2)
		b.hasReason(2, 0)
	}
}

func TestAddOfALiteralTwice(t *testing.T) {
	for _, c := range [][]int{{0, 0, 2}, {0, 2, 0}, {2, 0, 0}, {0, 2, 2, 0, 0, 2}} {
		b := newPair(t, 3)
		b.add(c...)
		b.runs()
		b.decide(1)
		b.runs(2)
		b.back(0)
		b.runs()
		b.decide(3)
		b.runs(0)
		b.back(0)
		b.decide(3, 1)
		b.fails(0)
		b.back(1)
		b.runs(0)
		b.clauses()
	}
}

func TestAddOfALiteralAndItsNot(t *testing.T) {
	for _, c := range [][]int{{2, 3}, {3, 2}, {2, 3, 2}, {2, 3, 4}, {4, 2, 3}, {2, 4, 3}, {2, 2, 3, 3, 4, 5}} {
		b := newPair(t, 4)
		b.add(c...)
		b.runs()
		for _, l := range []int{2, 3} {
			for _, m := range []int{4, 5} {
				b.decide(l)
				b.runs()
				b.decide(m)
				b.runs()
				b.back(0)
				b.decide(m)
				b.runs()
				b.decide(l)
				b.runs()
				b.back(0)
				b.decide(l, m)
				b.runs()
				b.back(0)
				b.runs()
			}
		}
		b.clauses()
	}
}

// All clauses of up to three literals of three variables, added where the
// trail has all that it may have of them, with and without a Run ahead, and
// then back level by level.
func TestAddWhateverTheTrailHas(t *testing.T) {
	var lists [][]int
	lists = append(lists, nil)
	for x := range 6 {
		lists = append(lists, []int{x})
		for y := range 6 {
			lists = append(lists, []int{x, y})
			for z := range 6 {
				lists = append(lists, []int{x, y, z})
			}
		}
	}
	for _, l := range lists {
		// Each variable is not assigned, or so, or so, each at the level that
		// is or at one more.
		for code := range 5 * 5 * 5 {
			for _, order := range [][]int{{0, 1, 2}, {2, 0, 1}, {1, 2, 0}} {
				b := newPair(t, 4)
				b.decide(6)
				b.does(call{kind: run})
				at := []int{code % 5, code / 5 % 5, code / 25}
				for _, v := range order {
					switch at[v] {
					case 1, 2:
						b.assign(2*v + at[v] - 1)
					case 3, 4:
						b.decide(2*v + at[v] - 3)
					}
				}
				b.add(l...)
				for b.t.Levels() > 0 {
					b.does(call{kind: run})
					b.back(b.t.Levels() - 1)
				}
				b.does(call{kind: run})
			}
		}
	}
}

// Clauses of which all literals do not hold, all but one, all but two, none,
// and such as hold, of many literals, at level 0 and above.
func TestAddOfManyLiterals(t *testing.T) {
	const n = 40
	for free := range 4 {
		for step := 1; step < 5; step++ {
			for first := range 3 {
				b := newPair(t, n+1)
				var l []int
				for v := range n {
					l = append(l, 2*v)
				}
				// Those that are left free stand at the beginning, in the
				// middle and at the end.
				leave := []int{first * (n - free) / 2, first*(n-free)/2 + 1, first*(n-free)/2 + 2}[:min(free, 3)]
				for v := range n {
					if slices.Contains(leave, v) {
						continue
					}
					if v%step == 0 {
						b.decide(2*v + 1)
					} else {
						b.assign(2*v + 1)
					}
				}
				b.add(l...)
				switch free {
				case 0:
					b.fails(0)
				case 1:
					b.runs(2 * leave[0])
					b.hasReason(2*leave[0], 0)
				default:
					b.runs()
				}
				for level := b.t.Levels() - 1; level >= 0; level-- {
					b.back(level)
					b.does(call{kind: run})
				}
				b.clauses()
			}
		}
	}
}

func TestAddOfClausesThatHold(t *testing.T) {
	b := newPair(t, 5)
	b.assign(0)
	b.decide(2)
	b.decide(4)
	b.runs()
	b.addAll([]int{0, 6}, []int{6, 2}, []int{1, 2}, []int{4, 1, 3}, []int{5, 3, 0})
	b.runs()
	b.back(1)
	b.runs(4)
	b.hasReason(4, 3)
	b.back(0)
	b.runs(2, 4)
	b.decide(7)
	b.runs()
}

func TestAddBehindARun(t *testing.T) {
	b := newPair(t, 6)
	b.add(1, 2)
	b.assign(0)
	b.runs(2)
	b.add(3, 4)
	b.runs(4)
	b.decide(6)
	b.runs()
	b.add(7, 5, 8)
	b.add(9, 10)
	b.runs(8, 10)
	b.add(11, 1)
	b.fails(4)
	b.back(0)
	b.runs(11, 9, 7)
	b.hasReason(11, 4)
	b.hasReason(9, 3)
	b.hasReason(7, 2)
}

func TestAListThatAddWasGiven(t *testing.T) {
	b := newPair(t, 6)
	mine := [][]int{{1, 2}, {3, 4, 6}, {5}, {0, 8}, {9, 3, 1, 6}}
	given := [][]int{{1, 2}, {3, 4, 6}, {5}, {0, 8}, {9, 3, 1, 6}}
	unchanged := func() {
		t.Helper()
		for i := range given {
			if !slices.Equal(mine[i], given[i]) {
				t.Fatalf("the list %v is %v", given[i], mine[i])
			}
		}
	}
	for _, l := range mine {
		b.w.Add(b.t, l)
		b.p.add(l)
	}
	unchanged()
	b.runs(5)
	b.decide(0)
	b.runs(2, 6)
	unchanged()
	b.back(0)
	b.decide(9)
	b.runs(0, 2, 6)
	unchanged()
	b.back(0)
	// What their owner writes into them later changes nothing.
	for _, l := range mine {
		for i := range l {
			l[i] = 10
		}
	}
	b.clauses()
	b.decide(0)
	b.runs(2, 6)
	b.clauses()
}

// A list that has room behind it is not written to there either, and one that
// was told has none that two could write to.
func TestAListWithRoom(t *testing.T) {
	for n := range 40 {
		b := newPair(t, 50)
		room := make([]int, n+3)
		for i := range room {
			room[i] = 2*i + 1
		}
		was := slices.Clone(room)
		b.w.Add(b.t, room[:n])
		b.p.add(room[:n])
		told := append(b.w.Clause(0), 88)
		again := append(b.w.Clause(0), 99)
		if told[n] != 88 || again[n] != 99 {
			t.Fatalf("%v and %v were appended to", told, again)
		}
		for i := range n {
			b.does(call{kind: decide, n: 2 * i})
			b.does(call{kind: run})
		}
		if !slices.Equal(room, was) {
			t.Fatalf("the list %v is %v", was, room)
		}
	}
}

// R4: nobody writes to what Clause told.
func TestClausesThatWereTold(t *testing.T) {
	b := newPair(t, 8)
	l := []int{0, 2, 4, 6, 8, 10}
	b.add(l...)
	told := b.w.Clause(0)
	was := slices.Clone(told)
	for _, order := range [][]int{{1, 3, 5, 7, 9}, {11, 9, 7, 5, 3}, {5, 1, 11, 3, 7}, {1, 11, 3, 9, 5}} {
		for _, x := range order {
			b.decide(x)
			b.does(call{kind: run})
		}
		b.back(0)
	}
	b.remove(0)
	b.add(14)
	b.does(call{kind: run})
	if !slices.Equal(told, was) {
		t.Fatalf("what was told as %v is %v", was, told)
	}
}

// Promise 11.1: Remove, Clause and Len.

func TestRemove(t *testing.T) {
	b := newPair(t, 5)
	b.addAll([]int{1, 2}, []int{3, 4}, []int{5, 6}, []int{7, 8})
	for _, i := range append([]int{4, 5, 100}, noNumbers...) {
		if b.remove(i) {
			t.Fatalf("Remove(%d) = true", i)
		}
	}
	if !b.remove(1) || b.remove(1) || b.remove(1) {
		t.Fatal("Remove(1) is not true once only")
	}
	b.clauses()
	// Its number is not used again.
	if n := b.add(3, 6); n != 4 {
		t.Fatalf("the number is %d", n)
	}
	b.clauses()
	if b.remove(1) || !b.remove(4) {
		t.Fatal("the last one is not gone, or one that was gone is")
	}
	if n := b.add(9); n != 5 {
		t.Fatalf("the number is %d", n)
	}
	// With 1 or 4 there 4 would follow, and its Not.
	b.assign(0)
	b.runs(2, 9, 7, 5)
}

func TestRemoveOfAll(t *testing.T) {
	b := newPair(t, 4)
	for round := range 30 {
		for i := range 5 {
			if n := b.add(2*(i%4), (2*i+3)%8); n != 5*round+i {
				t.Fatalf("the number is %d", n)
			}
		}
		if round%2 == 0 {
			b.does(call{kind: run})
		}
		for i := range 5 {
			if !b.remove(5*round + (i*3)%5) {
				t.Fatalf("Remove is false in round %d", round)
			}
		}
		if b.w.Len() != 0 {
			t.Fatalf("Len() = %d", b.w.Len())
		}
		b.clauses()
		b.decide(1)
		b.runs()
		b.back(0)
	}
}

// A clause that is gone plays no part: neither where it waits for its first
// Run, nor where it is watched, nor where it is a reason, nor where it failed.
func TestRemovedClausesPlayNoPart(t *testing.T) {
	b := newPair(t, 5)
	b.add(1, 2)
	b.remove(0)
	b.assign(0)
	b.runs()

	b = newPair(t, 5)
	b.addAll([]int{1, 2}, []int{1, 4}, []int{1, 6})
	b.runs()
	b.remove(1)
	b.decide(0)
	b.runs(2, 6)

	// A reason that is gone assigns no more behind Back; what it has assigned
	// stays till then.
	b.remove(0)
	b.runs()
	b.hasReason(2, 0)
	b.add(3, 8)
	b.runs(8)
	b.back(0)
	b.decide(0)
	b.runs(6)

	b = newPair(t, 5)
	b.addAll([]int{1, 2}, []int{1, 3}, []int{1, 4})
	b.assign(0)
	b.fails(0, 1)
	b.remove(1)
	b.does(call{kind: run})
	if b.t.Value(2) != 1 || b.t.Value(4) != 1 {
		t.Fatalf("hold %v", b.t.Lits())
	}

	b = newPair(t, 5)
	b.addAll([]int{0}, []int{1}, []int{2})
	b.fails(0, 1)
	b.remove(0)
	b.remove(1)
	b.does(call{kind: run})
	if b.t.Value(4) != 0 || b.t.Value(2) != 1 {
		t.Fatalf("hold %v", b.t.Lits())
	}
}

// The clause of one literal that was the reason is gone: behind Back it
// assigns nothing.
func TestRemoveOfOneLiteral(t *testing.T) {
	b := newPair(t, 3)
	b.decide(0)
	b.add(2)
	b.runs(2)
	b.remove(0)
	b.runs()
	b.back(0)
	b.runs()
	b.add(2)
	b.add(2)
	b.remove(1)
	b.runs(2)
	b.hasReason(2, 2)
}

func TestLenAndClauseAheadOfAndBehindRuns(t *testing.T) {
	b := newPair(t, 6)
	lists := [][]int{{1, 3, 5}, {0, 2}, {4, 6, 8, 10}, {11, 9}, {7}}
	for i, l := range lists {
		if b.w.Len() != i {
			t.Fatalf("Len() = %d ahead of Add %d", b.w.Len(), i)
		}
		b.add(l...)
		if b.w.Len() != i+1 {
			t.Fatalf("Len() = %d behind Add %d", b.w.Len(), i)
		}
	}
	b.clauses()
	for _, x := range []int{1, 4, 11, 8} {
		b.does(call{kind: run})
		b.clauses()
		b.does(call{kind: decide, n: x})
		b.clauses()
	}
	b.back(0)
	b.clauses()
	for i := range lists {
		b.remove(i)
		b.clauses()
		if b.w.Len() != len(lists)-1-i {
			t.Fatalf("Len() = %d behind Remove(%d)", b.w.Len(), i)
		}
	}
}

// Promise 11.2: Run.

func TestRunThatAssignsNothing(t *testing.T) {
	b := newPair(t, 5)
	b.runs()
	b.assign(0)
	b.decide(2)
	b.runs()
	b.addAll([]int{4, 6}, []int{1, 4, 6}, []int{0, 1, 3}, []int{2, 8}, []int{1, 3, 8, 6, 4})
	b.runs()
	b.back(0)
	b.runs()
}

func TestRunThatAssignsOne(t *testing.T) {
	for _, l := range [][]int{{0, 2}, {2, 0}, {0, 2, 4}, {4, 2, 0}, {2, 0, 4}, {0, 2, 4, 6, 8}, {8, 6, 2, 4, 0}} {
		for _, last := range l {
			b := newPair(t, 5)
			b.add(l...)
			b.runs()
			var others []int
			for _, x := range l {
				if x != last {
					others = append(others, x)
				}
			}
			for i, x := range others {
				b.decide(x ^ 1)
				if i < len(others)-1 {
					b.runs()
				}
			}
			b.runs(last)
			b.hasReason(last, 0)
			for level := b.t.Levels() - 1; level >= 0; level-- {
				b.back(level)
				b.runs()
			}
			// All at once, at levels of their own and at one.
			for _, x := range others {
				b.decide(x ^ 1)
			}
			b.runs(last)
			b.back(0)
			b.decide(others[0] ^ 1)
			for _, x := range others[1:] {
				b.assign(x ^ 1)
			}
			b.runs(last)
			b.back(0)
			b.assign(last ^ 1)
			b.does(call{kind: run})
		}
	}
}

func TestRunThatAssignsManyOneBehindTheOther(t *testing.T) {
	const n = 300
	for _, step := range []int{1, 7, n - 2} {
		b := newPair(t, n)
		// 0 implies 1, 1 implies 2, and so on; they are added in some order.
		want := []int{}
		number := map[int]int{}
		for i := range n - 1 {
			v := i * step % (n - 1)
			number[v+1] = b.add(2*v+1, 2*v+2)
		}
		for v := 1; v < n; v++ {
			want = append(want, 2*v)
		}
		b.runs()
		b.decide(0)
		b.runs(want...)
		for v := 1; v < n; v++ {
			b.hasReason(2*v, number[v])
		}
		b.back(0)
		// From the other end.
		b.decide(2*n - 1)
		b.runs(func() []int {
			var all []int
			for v := range n - 1 {
				all = append(all, 2*v+1)
			}
			return all
		}()...)
		b.back(0)
		b.decide(n)
		b.runs(func() []int {
			var all []int
			for v := n/2 + 1; v < n; v++ {
				all = append(all, 2*v)
			}
			return all
		}()...)
	}
}

func TestRunWhereAClauseFails(t *testing.T) {
	// At once.
	b := newPair(t, 6)
	b.add(0, 2, 4)
	b.decide(1, 3, 5)
	b.fails(0)
	b.back(2)
	b.runs(4)
	b.back(1)
	b.runs()

	// Behind what Run itself assigned.
	b = newPair(t, 6)
	b.addAll([]int{1, 2}, []int{3, 4}, []int{5, 3, 6}, []int{7, 5, 1})
	b.runs()
	b.decide(0)
	b.fails(2, 3)
	b.back(0)
	b.runs()
	b.decide(6)
	b.runs()
	b.decide(4)
	b.runs(1)
	b.back(0)
	b.decide(2)
	b.runs(4, 6, 1)

	// At level 0 it stays so.
	b = newPair(t, 6)
	b.addAll([]int{1, 2}, []int{1, 3}, []int{0})
	for range 5 {
		b.fails(0, 1, 2)
	}
	b.add(8)
	b.fails(0, 1, 2)
	b.decide(10)
	b.fails(0, 1, 2)
	b.back(0)
	b.fails(0, 1, 2)
}

func TestRunBehindARunThatFailed(t *testing.T) {
	b := newPair(t, 8)
	b.addAll([]int{1, 3, 5}, []int{1, 3, 4}, []int{7, 9, 2}, []int{3, 10, 12}, []int{11, 12}, []int{1, 14})
	b.decide(0)
	b.runs(14)
	b.decide(2)
	b.fails(0, 1)
	b.back(1)
	b.runs()
	b.decide(3)
	b.runs()
	b.decide(6)
	b.runs(9)
	b.back(1)
	b.add(3)
	b.runs(3)
	b.back(0)
	b.runs(3)
	b.decide(8)
	b.runs(7)
}

func TestRunBehindBackAndOtherDecides(t *testing.T) {
	b := newPair(t, 6)
	b.addAll([]int{1, 3, 4}, []int{0, 3, 6}, []int{1, 2, 8})
	b.decide(0, 2)
	b.runs(4)
	b.back(0)
	b.decide(1, 2)
	b.runs(6)
	b.back(1)
	b.decide(3)
	b.runs()
	b.back(0)
	b.decide(0, 3)
	b.runs(8)
	b.back(0)
	b.decide(2, 0)
	b.runs(4)
	b.back(1)
	b.decide(1)
	b.runs(6)
}

// As many hold as did behind the last Run, and the last ones are the same, but
// others ahead of them.
func TestRunWhereOnlyTheBeginningChanged(t *testing.T) {
	for _, other := range []int{6, 1} {
		b := newPair(t, 8)
		// 0 implies 2; with 4, but not with 2, 9 implies 10.
		b.addAll([]int{1, 2}, []int{5, 2, 8, 10}, []int{7, 9})
		b.decide(0)
		b.runs(2)
		b.decide(4)
		b.runs()
		b.back(0)
		b.decide(other)
		b.assign(9)
		b.decide(4)
		b.does(call{kind: run})
		b.decide(3)
		b.does(call{kind: run})
		b.hasReason(10, 1)
	}
}

// All as behind the last Run, but at other levels.
func TestRunWhereOnlyTheLevelsChanged(t *testing.T) {
	b := newPair(t, 8)
	b.addAll([]int{1, 2, 4}, []int{1, 3, 4, 6})
	b.decide(0)
	b.assign(2)
	b.runs()
	b.back(0)
	b.decide(0, 2)
	b.runs()
	b.back(1)
	b.decide(5)
	b.runs(2, 6)
	b.back(1)
	b.decide(3)
	b.runs(4)
	b.back(0)
	b.decide(0, 3)
	b.assign(4)
	b.runs()
	b.back(1)
	b.decide(5)
	b.runs(2, 6)
}

// Levels that a clause needed no look at: it holds by a literal that came
// later than one that does not hold, and that is taken back.
func TestRunWhereWhatHoldsIsTakenBack(t *testing.T) {
	b := newPair(t, 6)
	b.add(1, 2, 4)
	b.runs()
	b.decide(0, 2)
	b.runs()
	b.back(1)
	b.runs()
	b.decide(5)
	b.runs(2)
	b.back(1)
	b.decide(3)
	b.runs(4)

	// The same, where the clause was left with one literal far below.
	b = newPair(t, 6)
	b.add(1, 2)
	b.decide(0, 4, 6, 8)
	b.runs(2)
	for level := 3; level > 0; level-- {
		b.back(level)
		b.runs(2)
	}
	b.back(0)
	b.runs()
	b.decide(0, 3)
	b.fails(0)
	b.back(1)
	b.runs(2)
}

// Wrong inputs.

func TestNil(t *testing.T) {
	var none *Watch
	some := trail.New(3)
	some.Assign(0, -1)
	w := New(3)
	w.Add(some, []int{1, 2})
	lists := [][]int{nil, {}, {0}, {1, 2}, {-1}, {6}, {0, math.MaxInt}, {math.MinInt}}
	for range 2 {
		for _, l := range lists {
			for _, tr := range []*trail.Trail{nil, some} {
				if n, e := none.Add(tr, l); n != 0 || e != api.ErrArg {
					t.Fatalf("Add(%v) on nil = %d, %d", l, n, e)
				}
			}
			if n, e := w.Add(nil, l); n != 0 || e != api.ErrArg {
				t.Fatalf("Add(nil, %v) = %d, %d", l, n, e)
			}
		}
		for _, i := range append([]int{0, 1, 2}, noNumbers...) {
			if none.Remove(i) || len(none.Clause(i)) != 0 {
				t.Fatalf("on nil there is a clause %d", i)
			}
		}
		for _, tr := range []*trail.Trail{nil, some} {
			if i, ok := none.Run(tr); i != -1 || !ok {
				t.Fatalf("Run() = %d, %v on nil", i, ok)
			}
		}
		if i, ok := w.Run(nil); i != -1 || !ok {
			t.Fatalf("Run(nil) = %d, %v", i, ok)
		}
		if none.Len() != 0 || w.Len() != 1 || !slices.Equal(some.Lits(), []int{0}) {
			t.Fatalf("Len() = %d and %d; hold %v", none.Len(), w.Len(), some.Lits())
		}
	}
	if n, e := w.Add(some, []int{3, 4}); n != 1 || e != api.OK {
		t.Fatalf("Add = %d, %d", n, e)
	}
	if i, ok := w.Run(some); i != -1 || !ok || some.Value(2) != 1 || some.Value(4) != 1 {
		t.Fatalf("Run() = %d, %v; hold %v", i, ok, some.Lits())
	}
}

// The zero watch is one of no variables.
func TestZeroWatch(t *testing.T) {
	w, o := &Watch{}, trail.New(0)
	if i, ok := w.Run(o); i != -1 || !ok || w.Len() != 0 || w.Remove(0) || len(w.Clause(0)) != 0 {
		t.Fatalf("the zero watch has something: Run() = %d, %v", i, ok)
	}
	if n, e := w.Add(o, []int{0}); n != 0 || e != api.ErrVar {
		t.Fatalf("Add = %d, %d", n, e)
	}
	if n, e := w.Add(o, nil); n != 0 || e != api.OK {
		t.Fatalf("Add = %d, %d", n, e)
	}
	if i, ok := w.Run(o); i != 0 || ok || w.Len() != 1 || !w.Remove(0) {
		t.Fatalf("Run() = %d, %v", i, ok)
	}
}

// A nil trail says that all is well also where a clause fails, and changes
// nothing for the next Run.
func TestRunOfNilBetweenRuns(t *testing.T) {
	b := newPair(t, 4)
	nothing := func() {
		t.Helper()
		if i, ok := b.w.Run(nil); i != -1 || !ok {
			t.Fatalf("Run(nil) = %d, %v", i, ok)
		}
	}
	b.addAll([]int{1, 2}, []int{3, 4}, []int{5, 3})
	nothing()
	b.decide(0)
	nothing()
	b.fails(1, 2)
	nothing()
	b.back(0)
	nothing()
	b.runs()
	b.add()
	nothing()
	b.fails(3)
}

// Trails of other numbers of variables, and such as the clauses were not added
// with, are none that a Run is for: it ends all the same, and keeps to what
// follows.
func TestRunOfOtherTrails(t *testing.T) {
	r := rand.New(rand.NewSource(11))
	for range 300 {
		vars := r.Intn(8)
		w := New(vars)
		var trails []*trail.Trail
		for range 4 {
			trails = append(trails, trail.New(r.Intn(12)))
		}
		p := newPlain(vars)
		for range 60 {
			o := trails[r.Intn(len(trails))]
			l := aClause(r, vars)
			if n, e := w.Add(o, l); e == api.OK {
				if m, _ := p.add(l); m != n {
					t.Fatalf("the number is %d; want %d", n, m)
				}
			}
			o.Decide(r.Intn(24))
			o.Assign(r.Intn(24), r.Intn(5)-2)
			ahead := slices.Clone(o.Lits())
			i, ok := w.Run(o)
			if !slices.Equal(o.Lits()[:len(ahead)], ahead) {
				t.Fatalf("Run changed %v to %v", ahead, o.Lits())
			}
			if ok != (i == -1) || !ok && !p.has(i) {
				t.Fatalf("Run() = %d, %v", i, ok)
			}
			o.Back(r.Intn(o.Levels() + 1))
			if r.Intn(4) == 0 && len(p.lists) > 0 {
				i := r.Intn(len(p.lists))
				if w.Remove(i) != p.remove(i) {
					t.Fatalf("Remove(%d)", i)
				}
			}
		}
	}
}

// Rows of calls against the plain counterpart.

// aClause is one of some literals, most often few.
func aClause(r *rand.Rand, vars int) []int {
	n := 2 + r.Intn(3)
	switch r.Intn(12) {
	case 0:
		n = r.Intn(3)
	case 1:
		n = r.Intn(2*vars + 3)
	}
	l := make([]int, n)
	for i := range l {
		l[i] = aLit(r, vars)
	}
	if len(l) > 0 && r.Intn(60) == 0 {
		l[r.Intn(n)] = noLits[r.Intn(len(noLits))]
	}
	return l
}

func aLit(r *rand.Rand, vars int) int {
	if vars == 0 || r.Intn(200) == 0 {
		return r.Intn(2*vars+6) - 3
	}
	return r.Intn(2 * vars)
}

// style says of which calls a row has many.
type style struct{ adds, removes, assigns, decides, backs, runs int }

func (s style) kind(r *rand.Rand) int {
	k := r.Intn(s.adds + s.removes + s.assigns + s.decides + s.backs + s.runs)
	for i, n := range []int{s.adds, s.removes, s.assigns, s.decides, s.backs} {
		if k < n {
			return i
		}
		k -= n
	}
	return run
}

// next is the next call of a row.
func (b *pair) next(r *rand.Rand, s style) call {
	c := call{kind: s.kind(r)}
	switch c.kind {
	case add:
		c.lits = aClause(r, b.p.vars)
		// Such as have just come to be decided by the trail, too.
		if held := b.t.Lits(); len(held) > 0 && r.Intn(3) == 0 {
			for i := range c.lits {
				if r.Intn(4) > 0 {
					c.lits[i] = held[r.Intn(len(held))] ^ 1
				}
			}
		}
	case remove:
		c.n = r.Intn(len(b.p.lists)+4) - 2
		if r.Intn(20) == 0 {
			c.n = noNumbers[r.Intn(len(noNumbers))]
		}
	case assign:
		c.n, c.reason = aLit(r, b.p.vars), r.Intn(9)-4
	case decide:
		c.n = aLit(r, b.p.vars)
		if held := b.t.Lits(); len(b.row) > 0 && len(held) > 0 && r.Intn(4) == 0 {
			c.n = held[r.Intn(len(held))]
		}
	case back:
		level := b.t.Levels()
		c.n = level - 1 - r.Intn(level/3+1)
		if r.Intn(4) == 0 {
			c.n = r.Intn(level + 1)
		}
	}
	return c
}

// rows makes rows of random calls, and holds each against the plain
// counterpart. If strict, it goes back by a level behind each Run that was
// false, as the chapter asks.
func rows(t *testing.T, r *rand.Rand, vars, length int, s style, strict bool) {
	t.Helper()
	b := newPair(t, vars)
	for range length {
		got := b.does(b.next(r, s))
		failed := b.row[len(b.row)-1].kind == run && !got.ok
		if failed && strict {
			if level := b.t.Levels(); level > 0 {
				b.back(level - 1 - r.Intn(level))
			} else if b.p.has(got.n) && r.Intn(3) > 0 {
				// Else all that follows would fail.
				b.remove(got.n)
			}
		}
		if len(b.row)%37 == 0 {
			b.clauses()
		}
	}
	b.does(call{kind: run})
	b.clauses()
}

func styles() []style {
	return []style{
		{adds: 5, removes: 1, assigns: 3, decides: 5, backs: 3, runs: 8},
		{adds: 2, removes: 1, assigns: 8, decides: 8, backs: 5, runs: 4},
		{adds: 1, removes: 1, assigns: 1, decides: 9, backs: 3, runs: 12},
		{adds: 5, removes: 5, assigns: 2, decides: 4, backs: 3, runs: 4},
		{adds: 3, removes: 2, assigns: 0, decides: 5, backs: 4, runs: 8},
	}
}

func TestRowsOfSmallWatches(t *testing.T) {
	r := rand.New(rand.NewSource(110))
	for i := range 3000 {
		all := styles()
		rows(t, r, r.Intn(8), 100, all[i%len(all)], i%3 > 0)
	}
}

func TestRowsOfLargerWatches(t *testing.T) {
	r := rand.New(rand.NewSource(1100))
	for i := range 60 {
		all := styles()
		rows(t, r, 10+r.Intn(60), 600, all[i%len(all)], i%3 > 0)
	}
}

// Back, and the same decided again up to some place: what holds now begins as
// what held then, and goes on otherwise, or as long, but at other levels.
func TestRowsThatAreTakenAgain(t *testing.T) {
	r := rand.New(rand.NewSource(11000))
	for range 1500 {
		vars := 3 + r.Intn(6)
		b := newPair(t, vars)
		for range 3 + r.Intn(2*vars) {
			b.add(aClause(r, vars)...)
		}
		for range 30 {
			held := slices.Clone(b.t.Lits())
			b.does(call{kind: back, n: r.Intn(b.t.Levels() + 1)})
			change := r.Intn(len(held) + 2)
			for i := len(b.t.Lits()); i < len(held); i++ {
				x := held[i]
				if i == change {
					x = r.Intn(2 * vars)
				}
				kind := decide
				if r.Intn(2) == 0 {
					kind = assign
				}
				b.does(call{kind: kind, n: x, reason: -1})
			}
			if r.Intn(3) == 0 {
				b.does(call{kind: decide, n: r.Intn(2 * vars)})
			}
			if r.Intn(8) == 0 {
				b.add(aClause(r, vars)...)
			}
			if r.Intn(8) == 0 {
				b.remove(r.Intn(len(b.p.lists)))
			}
			if r.Intn(4) > 0 {
				b.does(call{kind: run})
			}
		}
		b.clauses()
	}
}

// All rows of few calls, of clauses of two variables.
func TestAllShortRows(t *testing.T) {
	calls := []call{{kind: run}, {kind: back, n: 0}, {kind: back, n: 1}, {kind: remove, n: 0},
		{kind: add, lits: []int{1, 2}}, {kind: add, lits: []int{3, 1}}, {kind: add, lits: []int{2}}}
	for _, l := range []int{0, 3} {
		calls = append(calls, call{kind: decide, n: l}, call{kind: assign, n: l, reason: -1})
	}
	row := make([]call, 5)
	var fill func(at int)
	fill = func(at int) {
		if at == len(row) {
			b := newPair(t, 2)
			for _, c := range row {
				b.does(c)
			}
			b.does(call{kind: run})
			return
		}
		for _, c := range calls {
			row[at] = c
			fill(at + 1)
		}
	}
	fill(0)
}

// R5, and watches beside one another.

// aRow is a row of random calls that a watch of so many variables was put
// through.
func aRow(t *testing.T, seed int64, vars, length int) []call {
	t.Helper()
	b, r := newPair(t, vars), rand.New(rand.NewSource(seed))
	for range length {
		got := b.does(b.next(r, styles()[0]))
		if level := b.t.Levels(); b.row[len(b.row)-1].kind == run && !got.ok && level > 0 {
			b.back(level - 1)
		} else if b.row[len(b.row)-1].kind == run && !got.ok {
			b.remove(got.n)
		}
	}
	return b.row
}

// told is what a row of calls told, and what held behind each.
type told struct {
	answers []answer
	held    [][]int
}

func tell(row []call, vars int) told {
	w, o := New(vars), trail.New(vars)
	var all told
	for _, c := range row {
		all.answers = append(all.answers, c.of(w, o))
		all.held = append(all.held, slices.Clone(o.Lits()))
	}
	return all
}

func (a told) is(t *testing.T, b told) {
	t.Helper()
	for i := range a.answers {
		if a.answers[i] != b.answers[i] || !slices.Equal(a.held[i], b.held[i]) {
			t.Fatalf("call %d told %v, then %v; %v held, then %v", i, a.answers[i], b.answers[i], a.held[i], b.held[i])
		}
	}
}

func TestTheSameRowAgain(t *testing.T) {
	row := aRow(t, 110000, 20, 1500)
	first := tell(row, 20)
	for range 5 {
		first.is(t, tell(row, 20))
	}
}

func TestTwoWatchesInTurns(t *testing.T) {
	row1, row2 := aRow(t, 5, 12, 1500), aRow(t, 6, 12, 1500)
	first, second := tell(row1, 12), tell(row2, 12)
	w1, w2, o1, o2 := New(12), New(12), trail.New(12), trail.New(12)
	for i := range min(len(row1), len(row2)) {
		a, b := row1[i].of(w1, o1), row2[i].of(w2, o2)
		if a != first.answers[i] || b != second.answers[i] || !slices.Equal(o1.Lits(), first.held[i]) || !slices.Equal(o2.Lits(), second.held[i]) {
			t.Fatalf("call %d of two in turns tells another thing", i)
		}
	}
}

func TestWatchesAtTheSameTime(t *testing.T) {
	row := aRow(t, 7, 30, 2000)
	// All are added with the same lists.
	all := make([]told, 6)
	var group sync.WaitGroup
	for i := range all {
		group.Go(func() { all[i] = tell(row, 30) })
	}
	group.Wait()
	want := tell(row, 30)
	for _, a := range all {
		want.is(t, a)
	}
}

// Many variables, many clauses, many calls: what is gone is not kept, and what
// has not changed is not gone over again.

// A level for each variable, with a Run at each, and back by one each time.
func TestMaxVarsLevels(t *testing.T) {
	const n = api.MaxVars
	w, o := New(n), trail.New(n)
	// Of each two that are beside one another one holds.
	for v := range n - 1 {
		if i, e := w.Add(o, []int{2*v + 1, 2*v + 3}); i != v || e != api.OK {
			t.Fatalf("Add = %d, %d", i, e)
		}
	}
	for v := 0; v < n; v += 2 {
		if !o.Decide(2 * v) {
			t.Fatalf("Decide(%d) = false", 2*v)
		}
		if i, ok := w.Run(o); i != -1 || !ok || len(o.Lits()) != min(v+2, n) || o.Value(2*v+3) != 1 {
			t.Fatalf("Run() = %d, %v behind Decide(%d)", i, ok, 2*v)
		}
	}
	o.Back(0)
	if i, ok := w.Run(o); i != -1 || !ok || len(o.Lits()) != 0 {
		t.Fatalf("Run() = %d, %v; %d hold", i, ok, len(o.Lits()))
	}
}

// One decision, of which all others follow.
func TestMaxVarsAtOneLevel(t *testing.T) {
	const n = api.MaxVars
	w, o := New(n), trail.New(n)
	for v := range n - 1 {
		w.Add(o, []int{2*v + 1, 2*v + 2})
	}
	for range 2 {
		o.Decide(0)
		if i, ok := w.Run(o); i != -1 || !ok || len(o.Lits()) != n || o.Reason(n-1) != n-2 {
			t.Fatalf("Run() = %d, %v; %d hold", i, ok, len(o.Lits()))
		}
		o.Back(0)
	}
	w.Add(o, []int{2*n - 1})
	if i, ok := w.Run(o); i != -1 || !ok || len(o.Lits()) != n || o.Value(1) != 1 || o.Reason(0) != 0 {
		t.Fatalf("Run() = %d, %v; %d hold", i, ok, len(o.Lits()))
	}
}

// A clause of very many literals, which cease to hold one by one, from either
// end on.
func TestALongClause(t *testing.T) {
	const n = 1 << 17
	w, o := New(n), trail.New(n)
	l := make([]int, n)
	for v := range l {
		l[v] = 2 * v
	}
	w.Add(o, l)
	for turn := range 2 {
		for i := range n - 1 {
			v := i
			if turn == 1 {
				v = n - 1 - i
			}
			o.Decide(2*v + 1)
			if at, ok := w.Run(o); at != -1 || !ok {
				t.Fatalf("Run() = %d, %v", at, ok)
			}
		}
		last := 2 * (n - 1) * (1 - turn)
		if len(o.Lits()) != n || o.Value(last) != 1 || o.Reason(last/2) != 0 {
			t.Fatalf("%d hold; %d has Value %d", len(o.Lits()), last, o.Value(last))
		}
		o.Back(0)
	}
}

// Clauses that come and go, with one Run for each and without: what is left of
// those that are gone does not grow.
func TestWhatIsGoneIsNotKept(t *testing.T) {
	for every := range 3 {
		w, o := New(20), trail.New(20)
		for i := range 100000 {
			n, e := w.Add(o, []int{1, 2, 4 + 2*(i%8)})
			if n != i || e != api.OK {
				t.Fatalf("Add = %d, %d", n, e)
			}
			if every > 0 {
				if i%every == 0 {
					o.Decide(0)
				}
				if at, ok := w.Run(o); at != -1 || !ok {
					t.Fatalf("Run() = %d, %v", at, ok)
				}
				o.Back(0)
			}
			if !w.Remove(i) || w.Len() != 0 {
				t.Fatalf("Remove(%d) is false, or Len() = %d", i, w.Len())
			}
			if kept := w.kept(); kept > 200 {
				t.Fatalf("lists have %d clauses behind %d that are gone", kept, i+1)
			}
		}
	}
}

// The same, where they all hold by what is never taken back.
func TestWhatIsGoneIsNotKeptAtLevel0(t *testing.T) {
	w, o := New(20), trail.New(20)
	o.Assign(0, -1)
	for i := range 10000 {
		w.Add(o, []int{1, 2})
		w.Add(o, []int{1, 2, 3, 4})
		w.Add(o, []int{4})
		if at, ok := w.Run(o); at != -1 || !ok {
			t.Fatalf("Run() = %d, %v", at, ok)
		}
		for k := range 3 {
			w.Remove(3*i + k)
		}
		if kept := w.kept(); kept > 200 {
			t.Fatalf("lists have %d clauses behind %d that are gone", kept, 3*i+3)
		}
	}
}

// Very many clauses that watch the same literals, and all of them removed.
func TestManyClausesOfOneLiteral(t *testing.T) {
	const n = 200000
	w, o := New(3), trail.New(3)
	for range n {
		w.Add(o, []int{0, 2, 4})
	}
	if i, ok := w.Run(o); i != -1 || !ok {
		t.Fatalf("Run() = %d, %v", i, ok)
	}
	o.Decide(1)
	w.Run(o)
	o.Decide(3)
	if i, ok := w.Run(o); i != -1 || !ok || o.Value(4) != 1 {
		t.Fatalf("Run() = %d, %v", i, ok)
	}
	o.Back(0)
	for i := range n {
		if !w.Remove(i) {
			t.Fatalf("Remove(%d) = false", i)
		}
	}
	o.Decide(1)
	o.Decide(3)
	if i, ok := w.Run(o); i != -1 || !ok || o.Value(4) != 0 || w.kept() > 10 {
		t.Fatalf("Run() = %d, %v; lists have %d", i, ok, w.kept())
	}
}

// Runs that are false again and again at level 0, and others that change
// nothing, do not let lists grow.
func TestRunsThatChangeNothingKeepNothing(t *testing.T) {
	for early := range 2 {
		w, o := New(6), trail.New(6)
		for _, l := range [][]int{{1, 2}, {1, 2, 5}, {1, 3}, {1, 4}, {8}, {8, 1}} {
			w.Add(o, l)
		}
		if early == 1 {
			w.Run(o)
		}
		o.Assign(0, -1)
		for range 10000 {
			if _, ok := w.Run(o); ok {
				t.Fatal("Run is true")
			}
		}
		if kept := w.kept(); kept > 40 {
			t.Fatalf("lists have %d clauses", kept)
		}
	}

	w, o := New(6), trail.New(6)
	for _, l := range [][]int{{1, 2}, {1, 2, 5}, {1, 6, 2}, {3, 5, 8}, {10}, {10, 1}} {
		w.Add(o, l)
	}
	for i := range 10000 {
		o.Decide(4)
		o.Decide(0)
		if _, ok := w.Run(o); !ok {
			t.Fatal("Run is false")
		}
		o.Back(i % 2)
		if i%3 == 0 {
			w.Run(o)
		}
		o.Back(0)
	}
	if kept := w.kept(); kept > 40 {
		t.Fatalf("lists have %d clauses", kept)
	}
}

// The same clauses in very long rows: each stands in as many lists as it needs,
// and no more.
func TestLongRowsKeepNothing(t *testing.T) {
	r := rand.New(rand.NewSource(1100000))
	for range 50 {
		const vars, clauses = 6, 10
		w, o := New(vars), trail.New(vars)
		for range clauses {
			l := []int{}
			for range 2 + r.Intn(3) {
				l = append(l, r.Intn(2*vars))
			}
			w.Add(o, l)
		}
		for i := range 3000 {
			switch k := r.Intn(8); {
			case k < 3:
				o.Decide(r.Intn(2 * vars))
			case k == 3:
				if o.Levels() > 0 {
					o.Assign(r.Intn(2*vars), -1)
				}
			case k == 4:
				o.Back(r.Intn(o.Levels() + 1))
			default:
				if _, ok := w.Run(o); !ok {
					o.Back(o.Levels() - 1)
				}
			}
			if kept := w.kept(); kept > 6*clauses {
				t.Fatalf("lists have %d clauses behind %d calls", kept, i)
			}
		}
	}
}

// kept counts what stands in lists.
func (w *Watch) kept() int {
	n := len(w.waiting)
	for _, list := range w.watching {
		n += len(list)
	}
	for _, f := range w.facts {
		n += len(f.leans)
	}
	return n
}
