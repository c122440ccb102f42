package trail

import (
	"fmt"
	"math"
	"math/rand"
	"slices"
	"sync"
	"testing"

	"breakwater/api"
)

// noVars are numbers that no trail has as variables, whatever its vars.
var noVars = []int{-1, -2, -3, -api.MaxVars, math.MinInt32, math.MinInt + 1, math.MinInt,
	api.MaxVars, api.MaxVars + 1, 2 * api.MaxVars, 1 << 40, math.MaxInt / 2, math.MaxInt - 1, math.MaxInt}

// noLits are numbers that no trail has as literals, whatever its vars.
var noLits = []int{-1, -2, -3, -4, -2 * api.MaxVars, math.MinInt32, math.MinInt + 1, math.MinInt,
	2 * api.MaxVars, 2*api.MaxVars + 1, 2*api.MaxVars + 2, 1 << 32, 1<<32 + 1, 1 << 40, 1 << 62, math.MaxInt - 1, math.MaxInt}

// reasons are of all kinds: a trail does not ask what they stand for.
var reasons = []int{0, 1, -1, -2, -7, 5, 1 << 20, 1 << 40, -1 << 40, math.MaxInt, math.MinInt}

// wrongNumbers are no numbers of variables that a trail may have.
var wrongNumbers = []int{-1, -2, -api.MaxVars, math.MinInt32, math.MinInt + 1, math.MinInt,
	api.MaxVars + 1, api.MaxVars + 2, 2 * api.MaxVars, 1 << 40, math.MaxInt - 1, math.MaxInt}

// entry is a literal that holds.
type entry struct{ l, level, reason int }

// plain is what the chapter says, word by word: a list of what was assigned,
// which it looks through each time.
type plain struct {
	vars, level int
	list        []entry
}

func newPlain(vars int) *plain {
	if vars < 0 || vars > api.MaxVars {
		vars = 0
	}
	return &plain{vars: vars}
}

// has tells whether variable v is assigned.
func (p *plain) has(v int) bool {
	return slices.ContainsFunc(p.list, func(e entry) bool { return e.l>>1 == v })
}

func (p *plain) assign(l, reason int) bool {
	if l < 0 || l>>1 >= p.vars || p.has(l>>1) {
		return false
	}
	p.list = append(p.list, entry{l, p.level, reason})
	return true
}

func (p *plain) decide(l int) bool {
	p.level++
	if p.assign(l, -1) {
		return true
	}
	p.level--
	return false
}

func (p *plain) lits() []int {
	var all []int
	for _, e := range p.list {
		all = append(all, e.l)
	}
	return all
}

func (p *plain) back(level int) []int {
	if level < 0 || level >= p.level {
		return nil
	}
	var gone []int
	var stays []entry
	for _, e := range p.list {
		if e.level > level {
			gone = append([]int{e.l >> 1}, gone...)
		} else {
			stays = append(stays, e)
		}
	}
	p.list, p.level = stays, level
	return gone
}

// alike asks all that can be asked of o, and of p, of all variables and of some
// beside.
func alike(t *testing.T, o *Trail, p *plain, behind any) {
	t.Helper()
	if got := o.Levels(); got != p.level {
		t.Fatalf("Levels() = %d behind %v; want %d", got, behind, p.level)
	}
	if got, want := o.Lits(), p.lits(); !slices.Equal(got, want) {
		t.Fatalf("Lits() = %v behind %v; want %v", got, behind, want)
	}
	// What was assigned is looked up once, not once a question.
	is := map[int]entry{}
	for _, e := range p.list {
		is[e.l>>1] = e
	}
	for v := -2; v < p.vars+2; v++ {
		e, assigned := is[v]
		want := [4]int{0, 0, -1, -1}
		if assigned {
			want = [4]int{1 - 2*(e.l&1), 2*(e.l&1) - 1, e.level, e.reason}
		}
		if got := ask(o, v); got != want {
			t.Fatalf("of %d: Value, that of its Not, Level, Reason are %v behind %v; want %v", v, got, behind, want)
		}
	}
}

// ask tells what a trail says of variable v: Value of both literals, Level and
// Reason.
func ask(o *Trail, v int) [4]int {
	return [4]int{o.Value(2 * v), o.Value(2*v + 1), o.Level(v), o.Reason(v)}
}

// wellMade asks that each variable is among Lits once at most, and that the
// levels never fall along Lits, from 0 on up to Levels.
func wellMade(t *testing.T, o *Trail, behind any) {
	t.Helper()
	seen, last := map[int]bool{}, 0
	for _, l := range o.Lits() {
		v := l / 2
		if seen[v] {
			t.Fatalf("%d is among Lits %v twice behind %v", v, o.Lits(), behind)
		}
		seen[v] = true
		level := o.Level(v)
		if level < last || level > last+1 || o.Value(l) != 1 || o.Value(l^1) != -1 {
			t.Fatalf("%d has level %d behind %d, Values %d and %d, in %v behind %v", l, level, last, o.Value(l), o.Value(l^1), o.Lits(), behind)
		}
		last = level
	}
	if last != o.Levels() {
		t.Fatalf("the last of Lits has level %d, Levels() = %d behind %v", last, o.Levels(), behind)
	}
}

// call is one of those that change a trail.
type call struct{ kind, n, reason int }

const (
	assign = iota
	decide
	back
)

func (c call) String() string {
	switch c.kind {
	case assign:
		return fmt.Sprintf("Assign(%d, %d)", c.n, c.reason)
	case decide:
		return fmt.Sprintf("Decide(%d)", c.n)
	}
	return fmt.Sprintf("Back(%d)", c.n)
}

// answer is what a call told.
type answer struct {
	ok   bool
	vars []int
}

func (a answer) is(b answer) bool { return a.ok == b.ok && slices.Equal(a.vars, b.vars) }

func (c call) of(o *Trail) answer {
	switch c.kind {
	case assign:
		return answer{ok: o.Assign(c.n, c.reason)}
	case decide:
		return answer{ok: o.Decide(c.n)}
	}
	return answer{vars: o.Back(c.n)}
}

func (c call) ofPlain(p *plain) answer {
	switch c.kind {
	case assign:
		return answer{ok: p.assign(c.n, c.reason)}
	case decide:
		return answer{ok: p.decide(c.n)}
	}
	return answer{vars: p.back(c.n)}
}

// goesPlain makes the calls of row one after the other, and holds each answer
// and all that can be asked behind it against the plain counterpart.
func goesPlain(t *testing.T, vars int, row []call) {
	t.Helper()
	goes(t, vars, row, func(int) bool { return true })
}

// goes is goesPlain that looks at the trail only behind those calls that look
// names, and behind the last.
func goes(t *testing.T, vars int, row []call, look func(i int) bool) {
	t.Helper()
	o, p := New(vars), newPlain(vars)
	var told lists
	for i, c := range row {
		got, want := c.of(o), c.ofPlain(p)
		if !got.is(want) {
			t.Fatalf("New(%d) %v: the last told %v; want %v", vars, row[:i+1], got, want)
		}
		told.keep(got.vars)
		if i == len(row)-1 || look(i) {
			told.keep(o.Lits())
			behind := row[max(0, i-30) : i+1]
			alike(t, o, p, behind)
			wellMade(t, o, behind)
		}
	}
	told.unchanged(t, row)
}

// lists are those that a trail handed out, and what they had then.
type lists struct{ told, had [][]int }

func (l *lists) keep(told []int) {
	l.told = append(l.told, told)
	l.had = append(l.had, slices.Clone(told))
}

func (l *lists) unchanged(t *testing.T, behind any) {
	t.Helper()
	for i, told := range l.told {
		if !slices.Equal(told, l.had[i]) {
			t.Fatalf("the list %d that was told was %v, and is %v behind %v", i, l.had[i], told, behind)
		}
	}
}

// assigns asks that Assign is true, and that it does what it must.
func assigns(t *testing.T, o *Trail, l, reason int) {
	t.Helper()
	level, ahead := o.Levels(), slices.Clone(o.Lits())
	if !o.Assign(l, reason) {
		t.Fatalf("Assign(%d, %d) = false", l, reason)
	}
	if o.Levels() != level {
		t.Fatalf("Levels() = %d behind Assign at %d", o.Levels(), level)
	}
	holds(t, o, l, level, reason)
	hasLits(t, o, append(ahead, l)...)
}

// decides asks that Decide is true, and that it does what it must.
func decides(t *testing.T, o *Trail, l int) {
	t.Helper()
	level, ahead := o.Levels(), slices.Clone(o.Lits())
	if !o.Decide(l) {
		t.Fatalf("Decide(%d) = false", l)
	}
	if o.Levels() != level+1 {
		t.Fatalf("Levels() = %d behind Decide at %d", o.Levels(), level)
	}
	holds(t, o, l, level+1, -1)
	hasLits(t, o, append(ahead, l)...)
}

func holds(t *testing.T, o *Trail, l, level, reason int) {
	t.Helper()
	want := [4]int{1, -1, level, reason}
	if l%2 == 1 {
		want[0], want[1] = -1, 1
	}
	if got := ask(o, l/2); got != want {
		t.Fatalf("of %d, which %d lets be: %v; want %v", l/2, l, got, want)
	}
	if o.Value(l) != 1 || o.Value(l^1) != -1 {
		t.Fatalf("Value(%d) = %d, Value(%d) = %d", l, o.Value(l), l^1, o.Value(l^1))
	}
}

// isFree asks that none of vs is assigned.
func isFree(t *testing.T, o *Trail, vs ...int) {
	t.Helper()
	for _, v := range vs {
		if got := ask(o, v); got != [4]int{0, 0, -1, -1} {
			t.Fatalf("of %d, which is not assigned: %v", v, got)
		}
	}
}

func hasLits(t *testing.T, o *Trail, want ...int) {
	t.Helper()
	if got := o.Lits(); !slices.Equal(got, want) {
		t.Fatalf("Lits() = %v; want %v", got, want)
	}
}

// goesBack asks that Back tells want, and that the level is that.
func goesBack(t *testing.T, o *Trail, level int, want ...int) {
	t.Helper()
	if got := o.Back(level); !slices.Equal(got, want) {
		t.Fatalf("Back(%d) = %v; want %v", level, got, want)
	}
	if o.Levels() != level {
		t.Fatalf("Levels() = %d behind Back(%d)", o.Levels(), level)
	}
	isFree(t, o, want...)
}

// shot is all that a trail of few variables tells.
type shot struct {
	levels int
	lits   []int
	asked  [][4]int
}

func take(o *Trail, vars int) shot {
	s := shot{levels: o.Levels(), lits: slices.Clone(o.Lits())}
	for v := range vars {
		s.asked = append(s.asked, ask(o, v))
	}
	return s
}

// stays asks that what do does changes nothing of o.
func stays(t *testing.T, o *Trail, vars int, name string, do func()) {
	t.Helper()
	a := take(o, vars)
	do()
	b := take(o, vars)
	if a.levels != b.levels || !slices.Equal(a.lits, b.lits) || !slices.Equal(a.asked, b.asked) {
		t.Fatalf("%s changed %v to %v", name, a, b)
	}
}

// refuses asks that neither Assign nor Decide of l does anything.
func refuses(t *testing.T, o *Trail, vars, l int) {
	t.Helper()
	for _, reason := range reasons {
		stays(t, o, vars, fmt.Sprintf("Assign(%d, %d)", l, reason), func() {
			if o.Assign(l, reason) {
				t.Fatalf("Assign(%d, %d) = true", l, reason)
			}
		})
	}
	stays(t, o, vars, fmt.Sprintf("Decide(%d)", l), func() {
		if o.Decide(l) {
			t.Fatalf("Decide(%d) = true", l)
		}
	})
}

// aTrail is one of six variables at level 3: 0 holds from level 0 on, 3 and 4
// from level 1 on, 7 from 2, 8 from 3; variable 5 is not assigned.
func aTrail(t *testing.T) *Trail {
	t.Helper()
	o := New(6)
	assigns(t, o, 0, 5)
	decides(t, o, 3)
	assigns(t, o, 4, 17)
	decides(t, o, 7)
	decides(t, o, 8)
	return o
}

// Promise 10.1: New.

func TestNewHasVariablesFrom0On(t *testing.T) {
	for _, vars := range []int{0, 1, 2, 3, 100, api.MaxVars - 1, api.MaxVars} {
		o := New(vars)
		if o == nil {
			t.Fatalf("New(%d) = nil", vars)
		}
		if o.Levels() != 0 || len(o.Lits()) != 0 {
			t.Fatalf("New(%d): level %d, %d literals hold", vars, o.Levels(), len(o.Lits()))
		}
		for v := range vars {
			if got := ask(o, v); got != [4]int{0, 0, -1, -1} {
				t.Fatalf("New(%d): of %d: %v", vars, v, got)
			}
		}
		for _, l := range []int{-2, -1, 2 * vars, 2*vars + 1, 2*vars + 2} {
			if o.Assign(l, 1) || o.Decide(l) || o.Value(l) != 0 || o.Levels() != 0 {
				t.Fatalf("New(%d) has a literal %d", vars, l)
			}
		}
		if vars > 0 {
			assigns(t, o, 2*vars-1, 3)
			if o.Assign(2*vars-2, 3) || o.Decide(2*vars-1) {
				t.Fatalf("New(%d): the last variable is assigned twice", vars)
			}
		}
		if vars > 1 {
			decides(t, o, 0)
			goesBack(t, o, 0, 0)
		}
	}
}

func TestNewOfAWrongNumberHasNoVariables(t *testing.T) {
	for _, vars := range wrongNumbers {
		o := New(vars)
		if o == nil {
			t.Fatalf("New(%d) = nil", vars)
		}
		for _, l := range append([]int{0, 1, 2, 3, vars, 2 * vars, 2*vars - 1, 2*api.MaxVars - 1}, noLits...) {
			refuses(t, o, 3, l)
			if o.Value(l) != 0 {
				t.Fatalf("New(%d): Value(%d) = %d", vars, l, o.Value(l))
			}
		}
		for _, v := range append([]int{0, 1, 2, vars, vars - 1, api.MaxVars - 1}, noVars...) {
			isFree(t, o, v)
		}
		if o.Levels() != 0 || len(o.Lits()) != 0 || len(o.Back(0)) != 0 {
			t.Fatalf("New(%d) has something", vars)
		}
	}
}

func TestTheExample(t *testing.T) {
	o := New(2)
	assigns(t, o, 0, 5)
	decides(t, o, 3)
	goesBack(t, o, 0, 1)
	holds(t, o, 0, 0, 5)
	hasLits(t, o, 0)
}

// Promise 10.1: Assign.

func TestAssignOnceOnly(t *testing.T) {
	for _, l := range []int{0, 1, 2, 3, 4, 5} {
		for level := range 3 {
			o := New(5)
			for i := range level {
				decides(t, o, 6+2*i)
			}
			isFree(t, o, l/2)
			assigns(t, o, l, 9)
			refuses(t, o, 5, l)
			refuses(t, o, 5, l^1)
			holds(t, o, l, level, 9)
		}
	}
}

func TestAssignForAllReasons(t *testing.T) {
	for _, reason := range reasons {
		o := New(4)
		assigns(t, o, 1, reason)
		decides(t, o, 2)
		assigns(t, o, 4, reason)
		decides(t, o, 7)
		holds(t, o, 1, 0, reason)
		holds(t, o, 2, 1, -1)
		holds(t, o, 4, 1, reason)
		goesBack(t, o, 0, 3, 2, 1)
		assigns(t, o, 5, reason)
		holds(t, o, 5, 0, reason)
	}
}

func TestAssignAtEachLevel(t *testing.T) {
	const levels = 20
	o := New(3 * levels)
	for level := range levels {
		if level > 0 {
			decides(t, o, 6*level+1)
		} else {
			assigns(t, o, 1, 77)
		}
		assigns(t, o, 6*level+2, level)
		assigns(t, o, 6*level+5, -level)
	}
	for level := range levels {
		holds(t, o, 6*level+2, level, level)
		holds(t, o, 6*level+5, level, -level)
	}
}

// Promise 10.1: Decide.

func TestDecideIsALevelMore(t *testing.T) {
	o := New(4)
	for i, l := range []int{6, 1, 3, 4} {
		if o.Levels() != i {
			t.Fatalf("Levels() = %d ahead of Decide %d", o.Levels(), i)
		}
		decides(t, o, l)
		if o.Levels() != i+1 || o.Level(l/2) != i+1 || o.Reason(l/2) != -1 {
			t.Fatalf("behind Decide(%d): Levels %d, Level %d, Reason %d", l, o.Levels(), o.Level(l/2), o.Reason(l/2))
		}
	}
	hasLits(t, o, 6, 1, 3, 4)
}

func TestDecideThatCanNotBe(t *testing.T) {
	o := aTrail(t)
	for _, l := range []int{0, 1, 2, 3, 4, 5, 6, 7, 8, 9, 12, 13, 14, -1, -2} {
		stays(t, o, 6, fmt.Sprintf("Decide(%d)", l), func() {
			if o.Decide(l) || o.Levels() != 3 {
				t.Fatalf("Decide(%d) is true, or Levels() = %d", l, o.Levels())
			}
		})
	}
	// None of these has begun a level: the next is the fourth.
	decides(t, o, 10)
	holds(t, o, 10, 4, -1)
	goesBack(t, o, 3, 5)
	goesBack(t, o, 2, 4)
}

func TestDecideAtLevel0ThatCanNotBe(t *testing.T) {
	o := New(1)
	assigns(t, o, 1, 0)
	for range 3 {
		refuses(t, o, 1, 0)
		refuses(t, o, 1, 1)
		refuses(t, o, 1, 2)
	}
	if got := o.Back(0); len(got) != 0 || o.Levels() != 0 {
		t.Fatalf("Back(0) = %v, Levels() = %d", got, o.Levels())
	}
	holds(t, o, 1, 0, 0)
}

// Promise 10.1: Value, Level, Reason and Levels.

func TestValue(t *testing.T) {
	o := aTrail(t)
	want := []int{1, -1, -1, 1, 1, -1, -1, 1, 1, -1, 0, 0, 0, 0, 0}
	for range 2 {
		for l, w := range want {
			if got := o.Value(l); got != w {
				t.Fatalf("Value(%d) = %d; want %d", l, got, w)
			}
		}
	}
}

func TestLevelAndReason(t *testing.T) {
	o := aTrail(t)
	levels, why := []int{0, 1, 1, 2, 3, -1, -1, -1}, []int{5, -1, 17, -1, -1, -1, -1, -1}
	for range 2 {
		for v := range levels {
			if got := o.Level(v); got != levels[v] {
				t.Fatalf("Level(%d) = %d; want %d", v, got, levels[v])
			}
			if got := o.Reason(v); got != why[v] {
				t.Fatalf("Reason(%d) = %d; want %d", v, got, why[v])
			}
		}
	}
}

func TestLevels(t *testing.T) {
	o := New(9)
	level := func(want int) {
		t.Helper()
		if got := o.Levels(); got != want {
			t.Fatalf("Levels() = %d; want %d", got, want)
		}
	}
	level(0)
	o.Assign(0, 1)
	level(0)
	for i := 1; i <= 5; i++ {
		o.Decide(2 * i)
		level(i)
		o.Decide(2*i + 1)
		level(i)
	}
	o.Assign(17, 1)
	level(5)
	for _, b := range []int{4, 4, 2, 3, 2, -1, 1, 0, 0} {
		want := o.Levels()
		if 0 <= b && b < want {
			want = b
		}
		o.Back(b)
		level(want)
	}
	o.Decide(17)
	level(1)
}

// Promise 10.1: Lits.

func TestLitsWhereNoneHolds(t *testing.T) {
	for vars := range 4 {
		o := New(vars)
		hasLits(t, o)
		for _, l := range noLits {
			o.Assign(l, 1)
			o.Decide(l)
		}
		hasLits(t, o)
		for v := range vars {
			decides(t, o, 2*v)
		}
		o.Back(0)
		hasLits(t, o)
	}
}

func TestLitsWhereOneHolds(t *testing.T) {
	for l := range 10 {
		o := New(5)
		assigns(t, o, l, l)
		hasLits(t, o, l)
		o = New(5)
		decides(t, o, l)
		hasLits(t, o, l)
	}
}

// All orders of up to five variables, with all signs, with and without levels.
func TestLitsWhereAllHold(t *testing.T) {
	for vars := range 6 {
		for _, row := range rows(vars) {
			for signs := range 1 << vars {
				for levels := range min(1<<vars, 8) {
					allHold(t, row, signs, levels)
				}
			}
		}
	}
}

// allHold assigns the variables of row one after the other: negated where signs
// has a bit, decided where levels has.
func allHold(t *testing.T, row []int, signs, levels int) {
	t.Helper()
	o := New(len(row))
	var want []int
	for at, v := range row {
		l := 2*v + signs>>at&1
		want = append(want, l)
		if levels>>at&1 == 1 && !o.Decide(l) || levels>>at&1 == 0 && !o.Assign(l, at) {
			t.Fatalf("%d can not be assigned", l)
		}
		hasLits(t, o, want...)
	}
	wellMade(t, o, row)
}

// rows are all orders of the numbers from 0 to n-1.
func rows(n int) [][]int {
	if n == 0 {
		return [][]int{{}}
	}
	var all [][]int
	for _, row := range rows(n - 1) {
		for at := range n {
			all = append(all, slices.Insert(slices.Clone(row), at, n-1))
		}
	}
	return all
}

// Promise 10.1: Back.

func TestBackToEachLevel(t *testing.T) {
	gone := [][]int{{4, 3, 2, 1}, {4, 3}, {4}}
	lits := [][]int{{0}, {0, 3, 4}, {0, 3, 4, 7}}
	for level := range 3 {
		o := aTrail(t)
		goesBack(t, o, level, gone[level]...)
		hasLits(t, o, lits[level]...)
		holds(t, o, 0, 0, 5)
		if level >= 1 {
			holds(t, o, 3, 1, -1)
			holds(t, o, 4, 1, 17)
		}
		if level >= 2 {
			holds(t, o, 7, 2, -1)
		}
		isFree(t, o, 5, 6)
		wellMade(t, o, level)
	}
}

func TestBackByAndBy(t *testing.T) {
	o := aTrail(t)
	goesBack(t, o, 2, 4)
	goesBack(t, o, 1, 3)
	goesBack(t, o, 0, 2, 1)
	hasLits(t, o, 0)
	if got := o.Back(0); len(got) != 0 {
		t.Fatalf("Back(0) = %v at level 0", got)
	}
	holds(t, o, 0, 0, 5)
}

func TestBackToNoLevelBelow(t *testing.T) {
	o := aTrail(t)
	for _, above := range []int{3, 2, 1, 0} {
		o.Back(above)
		for _, level := range []int{above, above + 1, above + 2, 1 << 31, 1 << 32, 1<<32 + 1, math.MaxInt - 1, math.MaxInt,
			-1, -2, -above, -1 << 31, -1 << 32, math.MinInt + 1, math.MinInt} {
			if level == 0 && above > 0 {
				continue
			}
			stays(t, o, 6, fmt.Sprintf("Back(%d) at %d", level, above), func() {
				if got := o.Back(level); len(got) != 0 {
					t.Fatalf("Back(%d) = %v at level %d", level, got, above)
				}
			})
		}
	}
}

// What is assigned at level 0 is never taken back.
func TestBackLeavesLevel0(t *testing.T) {
	o := New(8)
	for v := range 4 {
		assigns(t, o, 2*v+v%2, 10+v)
	}
	for range 3 {
		if got := o.Back(0); len(got) != 0 {
			t.Fatalf("Back(0) = %v where no level is above 0", got)
		}
		decides(t, o, 8)
		assigns(t, o, 11, 3)
		goesBack(t, o, 0, 5, 4)
		hasLits(t, o, 0, 3, 4, 7)
		for v := range 4 {
			holds(t, o, 2*v+v%2, 0, 10+v)
		}
	}
	// And there may come more at level 0 behind Back.
	assigns(t, o, 12, 44)
	decides(t, o, 8)
	goesBack(t, o, 0, 4)
	hasLits(t, o, 0, 3, 4, 7, 12)
	holds(t, o, 12, 0, 44)
}

func TestAgainBehindBack(t *testing.T) {
	o := New(4)
	decides(t, o, 0)
	assigns(t, o, 2, 8)
	decides(t, o, 4)
	assigns(t, o, 6, 9)
	goesBack(t, o, 1, 3, 2)

	// The other way round, at another level, for another reason.
	assigns(t, o, 7, 10)
	decides(t, o, 5)
	holds(t, o, 7, 1, 10)
	holds(t, o, 5, 2, -1)
	hasLits(t, o, 0, 2, 7, 5)
	refuses(t, o, 4, 6)
	refuses(t, o, 4, 4)

	goesBack(t, o, 0, 2, 3, 1, 0)
	hasLits(t, o)
	assigns(t, o, 4, 11)
	decides(t, o, 3)
	assigns(t, o, 1, 12)
	decides(t, o, 6)
	holds(t, o, 4, 0, 11)
	holds(t, o, 3, 1, -1)
	holds(t, o, 1, 1, 12)
	holds(t, o, 6, 2, -1)
	hasLits(t, o, 4, 3, 1, 6)
	goesBack(t, o, 0, 3, 0, 1)
	hasLits(t, o, 4)
}

// A variable that was decided is assigned for a reason behind Back, and the
// other way round.
func TestDecidedThenAssigned(t *testing.T) {
	for l := range 2 {
		for m := range 2 {
			o := New(2)
			decides(t, o, l)
			goesBack(t, o, 0, 0)
			refuses(t, o, 2, 4)
			assigns(t, o, m, 6)
			holds(t, o, m, 0, 6)

			o = New(2)
			decides(t, o, 2)
			assigns(t, o, l, 6)
			goesBack(t, o, 0, 0, 1)
			decides(t, o, m)
			holds(t, o, m, 1, -1)
		}
	}
}

// Wrong inputs.

func TestLiteralsOfNoVariable(t *testing.T) {
	for vars := range 4 {
		o := New(vars)
		for at := range 3 {
			for _, l := range append([]int{2 * vars, 2*vars + 1, 2*vars + 2, 2*vars + 3, 4*vars + 4}, noLits...) {
				refuses(t, o, vars, l)
				stays(t, o, vars, fmt.Sprintf("Value(%d)", l), func() {
					if got := o.Value(l); got != 0 {
						t.Fatalf("Value(%d) = %d", l, got)
					}
				})
			}
			if at < vars {
				decides(t, o, 2*at+1)
			}
		}
	}
}

func TestVariablesThatAreNone(t *testing.T) {
	for vars := range 4 {
		o := New(vars)
		for v := range vars {
			assigns(t, o, 2*v, 3)
		}
		for _, v := range append([]int{vars, vars + 1, 2*vars + 2}, noVars...) {
			stays(t, o, vars, fmt.Sprintf("Level and Reason of %d", v), func() {
				if l, r := o.Level(v), o.Reason(v); l != -1 || r != -1 {
					t.Fatalf("Level(%d) = %d, Reason(%d) = %d", v, l, v, r)
				}
			})
		}
	}
}

func TestNil(t *testing.T) {
	var o *Trail
	for range 2 {
		for _, n := range append(append([]int{0, 1, 2, 3}, noVars...), noLits...) {
			for _, reason := range reasons {
				if o.Assign(n, reason) {
					t.Fatalf("Assign(%d, %d) = true on nil", n, reason)
				}
			}
			if o.Decide(n) {
				t.Fatalf("Decide(%d) = true on nil", n)
			}
			if v, l, r := o.Value(n), o.Level(n), o.Reason(n); v != 0 || l != -1 || r != -1 {
				t.Fatalf("Value, Level, Reason of %d on nil: %d, %d, %d", n, v, l, r)
			}
			if got := o.Back(n); len(got) != 0 {
				t.Fatalf("Back(%d) = %v on nil", n, got)
			}
		}
		if o.Levels() != 0 || len(o.Lits()) != 0 {
			t.Fatalf("Levels() = %d, Lits() = %v on nil", o.Levels(), o.Lits())
		}
	}
}

// The zero trail is one of no variables.
func TestZeroTrail(t *testing.T) {
	o := &Trail{}
	for _, n := range append([]int{0, 1}, noLits...) {
		refuses(t, o, 2, n)
		isFree(t, o, n)
		if len(o.Back(n)) != 0 || len(o.Lits()) != 0 || o.Levels() != 0 {
			t.Fatalf("the zero trail has something behind Back(%d)", n)
		}
	}
}

// Rows of calls against the plain counterpart.

// aRow is a row of so many calls, of which of a hundred some turns go back. A
// plain trail goes along, so that most of them are to a level that there is.
func aRow(r *rand.Rand, vars, length, turns int) []call {
	row, p := make([]call, length), newPlain(vars)
	for i := range row {
		// Two literals beside those that are on either side.
		l := r.Intn(2*vars+4) - 2
		switch k := r.Intn(100); {
		case k < turns:
			row[i] = call{kind: back, n: aLevel(r, p.level)}
		case k%2 == 0:
			row[i] = call{kind: decide, n: l}
		default:
			row[i] = call{kind: assign, n: l, reason: aReason(r)}
		}
		row[i].ofPlain(p)
	}
	return row
}

// aLevel is a level to go back to, where level is the one that is.
func aLevel(r *rand.Rand, level int) int {
	switch r.Intn(6) {
	case 0:
		return noVars[r.Intn(len(noVars))]
	case 1:
		return level + r.Intn(3) - 1
	case 2:
		return r.Intn(level + 1)
	}
	return level - 1 - r.Intn(level/8+1)
}

func aReason(r *rand.Rand) int {
	if r.Intn(3) == 0 {
		return reasons[r.Intn(len(reasons))]
	}
	return r.Intn(1000) - 100
}

// All rows of up to five calls of two variables.
func TestAllShortRows(t *testing.T) {
	calls := []call{{kind: back, n: 0}, {kind: back, n: 1}, {kind: back, n: 2}, {kind: back, n: -1}}
	for l := range 4 {
		calls = append(calls, call{kind: decide, n: l}, call{kind: assign, n: l, reason: l + 3})
	}
	row := make([]call, 5)
	var fill func(at int)
	fill = func(at int) {
		if at == len(row) {
			// All shorter rows are the beginnings of others, but what Lits
			// told may be written to only later on.
			goes(t, 2, row, func(i int) bool { return i == 2 })
			return
		}
		for _, c := range calls {
			row[at] = c
			fill(at + 1)
		}
	}
	fill(0)
}

func TestRowsOfSmallTrails(t *testing.T) {
	r := rand.New(rand.NewSource(10))
	for range 400 {
		vars := r.Intn(9)
		goesPlain(t, vars, aRow(r, vars, 300, 5+r.Intn(30)))
	}
}

func TestRowsOfLargerTrails(t *testing.T) {
	r := rand.New(rand.NewSource(100))
	for _, vars := range []int{30, 64, 100, 300} {
		for range 6 {
			goesPlain(t, vars, aRow(r, vars, 1500, 2+r.Intn(20)))
		}
	}
}

// What Lits told is looked at now and then only, so that lists of many lengths
// are behind one another when the trail goes back and on.
func TestListsOfManyTurns(t *testing.T) {
	r := rand.New(rand.NewSource(1000))
	for range 300 {
		vars := 1 + r.Intn(40)
		goes(t, vars, aRow(r, vars, 400, 5+r.Intn(30)), func(int) bool { return r.Intn(7) == 0 })
	}
}

// R4: nobody writes to a list that was handed out.

func TestToldListsStayAsTheyWere(t *testing.T) {
	o := aTrail(t)
	all := o.Lits()
	gone := o.Back(1)
	some := o.Lits()
	decides(t, o, 9)
	assigns(t, o, 6, 2)
	assigns(t, o, 11, 3)
	again := o.Back(0)
	decides(t, o, 2)
	assigns(t, o, 5, 4)
	for i, l := range [][2][]int{{all, {0, 3, 4, 7, 8}}, {gone, {4, 3}}, {some, {0, 3, 4}}, {again, {5, 3, 4, 2, 1}}} {
		if !slices.Equal(l[0], l[1]) {
			t.Errorf("list %d is %v; it was told as %v", i, l[0], l[1])
		}
	}
}

func TestAppendToAToldList(t *testing.T) {
	o := New(40)
	for v := range 20 {
		decides(t, o, 2*v)
		told := o.Lits()
		_ = append(told, -5, -6, -7)
		if got := o.Lits(); len(got) != v+1 || got[v] != 2*v {
			t.Fatalf("Lits() = %v behind an append", got)
		}
		mine := append(told, -8)
		assigns(t, o, 2*v+41, 3)
		if mine[v+1] != -8 {
			t.Fatalf("an Assign wrote %d into what was appended to a list", mine[v+1])
		}
		goesBack(t, o, v, v+20, v)
		gone := append(o.Back(v-1), -9)
		if v > 0 {
			decides(t, o, 2*(v-1))
		}
		decides(t, o, 2*v)
		if gone[len(gone)-1] != -9 {
			t.Fatal("a Decide wrote into what was appended to a list of Back")
		}
	}
}

// R5, and trails beside one another.

func TestTheSameRowAgain(t *testing.T) {
	row := aRow(rand.New(rand.NewSource(10000)), 20, 2000, 15)
	var first []answer
	var lits [][]int
	for again := range 3 {
		o := New(20)
		for i, c := range row {
			got := c.of(o)
			if again == 0 {
				first = append(first, got)
				lits = append(lits, slices.Clone(o.Lits()))
			} else if !got.is(first[i]) || !slices.Equal(o.Lits(), lits[i]) {
				t.Fatalf("call %d, %v: told %v, then %v; Lits %v, then %v", i, c, first[i], got, lits[i], o.Lits())
			}
		}
	}
}

func TestTwoTrailsInTurns(t *testing.T) {
	r := rand.New(rand.NewSource(100000))
	o1, o2, p1, p2 := New(9), New(9), newPlain(9), newPlain(9)
	row1, row2 := aRow(r, 9, 2000, 15), aRow(r, 9, 2000, 15)
	for i := range row1 {
		if got, want := row1[i].of(o1), row1[i].ofPlain(p1); !got.is(want) {
			t.Fatalf("%v: %v; want %v", row1[i], got, want)
		}
		alike(t, o2, p2, "a call of the other")
		if got, want := row2[i].of(o2), row2[i].ofPlain(p2); !got.is(want) {
			t.Fatalf("%v: %v; want %v", row2[i], got, want)
		}
		alike(t, o1, p1, "a call of the other")
	}
}

func TestTrailsAtTheSameTime(t *testing.T) {
	row := aRow(rand.New(rand.NewSource(1000000)), 50, 3000, 15)
	told := make([][]answer, 4)
	var all sync.WaitGroup
	for i := range told {
		all.Go(func() {
			o := New(50)
			for _, c := range row {
				told[i] = append(told[i], c.of(o))
			}
		})
	}
	all.Wait()
	p := newPlain(50)
	for at, c := range row {
		want := c.ofPlain(p)
		for i := range told {
			if !told[i][at].is(want) {
				t.Fatalf("trail %d, call %d, %v: %v; want %v", i, at, c, told[i][at], want)
			}
		}
	}
}

// The greatest trail there is: a level for each variable, and back by one each
// time. A copy of all that holds, for each Lits, would not come to an end here.
func TestMaxVarsLevels(t *testing.T) {
	const n = api.MaxVars
	o := New(n)
	for v := range n {
		l := 2*v + v%2
		if !o.Decide(l) {
			t.Fatalf("Decide(%d) = false", l)
		}
		if lits := o.Lits(); len(lits) != v+1 || lits[v] != l {
			t.Fatalf("Lits() has %d behind Decide(%d)", len(lits), l)
		}
	}
	if o.Levels() != n || o.Decide(0) || o.Assign(2*n-1, 1) {
		t.Fatalf("Levels() = %d where all are assigned", o.Levels())
	}
	for v := n - 1; v >= 0; v-- {
		if got := ask(o, v); got != [4]int{1 - 2*(v%2), 2*(v%2) - 1, v + 1, -1} {
			t.Fatalf("of %d: %v", v, got)
		}
		if gone := o.Back(v); len(gone) != 1 || gone[0] != v || len(o.Lits()) != v {
			t.Fatalf("Back(%d) = %v; %d hold then", v, gone, len(o.Lits()))
		}
	}
	isFree(t, o, 0, 1, n-1)
}

// All variables at one level, and back by it.
func TestMaxVarsAtOneLevel(t *testing.T) {
	const n = api.MaxVars
	o := New(n)
	for turn := range 2 {
		if !o.Decide(turn) {
			t.Fatal("Decide of variable 0 is false")
		}
		for v := 1; v < n; v++ {
			if !o.Assign(2*v+turn, v) {
				t.Fatalf("Assign(%d, %d) = false", 2*v+turn, v)
			}
		}
		for v := 1; v < n; v++ {
			if o.Value(2*v+turn) != 1 || o.Level(v) != 1 || o.Reason(v) != v {
				t.Fatalf("of %d: %v", v, ask(o, v))
			}
		}
		gone := o.Back(0)
		if len(gone) != n || o.Levels() != 0 || len(o.Lits()) != 0 {
			t.Fatalf("Back(0) tells %d", len(gone))
		}
		for at, v := range gone {
			if v != n-1-at {
				t.Fatalf("Back(0) tells %d at place %d", v, at)
			}
		}
	}
}
