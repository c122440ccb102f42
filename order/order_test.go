package order

import (
	"fmt"
	"math"
	"math/rand"
	"slices"
	"sync"
	"testing"

	"breakwater/api"
)

// top is the greatest activity, written out here once more.
const top = 1099511627776

// none are numbers that no order has as variables, whatever its n.
var none = []int{-1, -2, -api.MaxVars, math.MinInt32, math.MinInt + 1, math.MinInt,
	api.MaxVars, api.MaxVars + 1, 1 << 40, math.MaxInt - 1, math.MaxInt}

// plain is what the chapter says, word by word: it looks through all variables
// each time.
type plain struct {
	activity []int
	waits    []bool
}

func newPlain(n int) *plain {
	if n < 0 || n > api.MaxVars {
		n = 0
	}
	return &plain{activity: make([]int, n), waits: make([]bool, n)}
}

func (p *plain) is(v int) bool { return 0 <= v && v < len(p.waits) }

func (p *plain) push(v int) bool {
	if !p.is(v) || p.waits[v] {
		return false
	}
	p.waits[v] = true
	return true
}

func (p *plain) pop() (int, bool) {
	best := -1
	for v, waits := range p.waits {
		if waits && (best < 0 || p.activity[v] > p.activity[best]) {
			best = v
		}
	}
	if best < 0 {
		return -1, false
	}
	p.waits[best] = false
	return best, true
}

func (p *plain) bump(v, by int) bool {
	if !p.is(v) {
		return false
	}
	// As a float no sum is too great, and one this far out is not rounded to
	// the other side of a bound.
	switch f := float64(p.activity[v]) + float64(by); {
	case f > top:
		p.activity[v] = top
	case f < 0:
		p.activity[v] = 0
	default:
		p.activity[v] += by
	}
	return true
}

func (p *plain) halve() {
	for v, a := range p.activity {
		p.activity[v] = (a - a%2) / 2
	}
}

func (p *plain) len() int {
	n := 0
	for _, waits := range p.waits {
		if waits {
			n++
		}
	}
	return n
}

// alike asks of each variable, and of some beside, whether o is as p says.
func alike(t *testing.T, o *Order, p *plain, behind string) {
	t.Helper()
	if got, want := o.Len(), p.len(); got != want {
		t.Fatalf("Len() = %d behind %s; want %d", got, behind, want)
	}
	for v := -2; v < len(p.waits)+2; v++ {
		waits, activity := p.is(v) && p.waits[v], 0
		if p.is(v) {
			activity = p.activity[v]
		}
		if got := o.Has(v); got != waits {
			t.Fatalf("Has(%d) = %v behind %s", v, got, behind)
		}
		if got := o.Activity(v); got != activity {
			t.Fatalf("Activity(%d) = %d behind %s; want %d", v, got, behind, activity)
		}
	}
}

// call is one of those that change an order.
type call struct {
	kind  int
	v, by int
}

const (
	push = iota
	pop
	bump
	halve
)

func (c call) String() string {
	switch c.kind {
	case push:
		return fmt.Sprintf("Push(%d)", c.v)
	case pop:
		return "Pop()"
	case bump:
		return fmt.Sprintf("Bump(%d, %d)", c.v, c.by)
	}
	return "Halve()"
}

// answer is what a call told; v is 0 but for Pop.
type answer struct {
	v  int
	ok bool
}

func (c call) of(o *Order) answer {
	switch c.kind {
	case push:
		return answer{ok: o.Push(c.v)}
	case pop:
		v, ok := o.Pop()
		return answer{v: v, ok: ok}
	case bump:
		return answer{ok: o.Bump(c.v, c.by)}
	}
	o.Halve()
	return answer{}
}

func (c call) ofPlain(p *plain) answer {
	switch c.kind {
	case push:
		return answer{ok: p.push(c.v)}
	case pop:
		v, ok := p.pop()
		return answer{v: v, ok: ok}
	case bump:
		return answer{ok: p.bump(c.v, c.by)}
	}
	p.halve()
	return answer{}
}

// goesPlain makes the calls of row one after the other, and holds each answer
// and all that can be asked behind it against the plain counterpart.
func goesPlain(t *testing.T, n int, row []call) {
	t.Helper()
	o, p := New(n), newPlain(n)
	for i, c := range row {
		if got, want := c.of(o), c.ofPlain(p); got != want {
			t.Fatalf("New(%d) %v: the last told %v; want %v", n, row[:i+1], got, want)
		}
		alike(t, o, p, fmt.Sprint(row[:i+1]))
	}
}

// pushes lets all of vs wait.
func pushes(t *testing.T, o *Order, vs ...int) {
	t.Helper()
	for _, v := range vs {
		if !o.Push(v) {
			t.Fatalf("Push(%d) = false", v)
		}
	}
}

func bumps(t *testing.T, o *Order, v, by, want int) {
	t.Helper()
	if !o.Bump(v, by) {
		t.Fatalf("Bump(%d, %d) = false", v, by)
	}
	if got := o.Activity(v); got != want {
		t.Fatalf("Activity(%d) = %d behind Bump(%d, %d); want %d", v, got, v, by, want)
	}
}

// pops asks that Pop tells want one after the other.
func pops(t *testing.T, o *Order, want ...int) {
	t.Helper()
	for _, w := range want {
		if v, ok := o.Pop(); v != w || !ok {
			t.Fatalf("Pop() = %d, %v; want %d", v, ok, w)
		}
	}
}

// isEmpty asks that none waits any more, twice.
func isEmpty(t *testing.T, o *Order) {
	t.Helper()
	for range 2 {
		if v, ok := o.Pop(); v != -1 || ok {
			t.Fatalf("Pop() = %d, %v where none waits", v, ok)
		}
		if n := o.Len(); n != 0 {
			t.Fatalf("Len() = %d where none waits", n)
		}
	}
}

// Promise 8.1: New.

func TestNewHasVariablesFrom0On(t *testing.T) {
	for _, n := range []int{0, 1, 2, 3, 100, api.MaxVars - 1, api.MaxVars} {
		o := New(n)
		if o == nil {
			t.Fatalf("New(%d) = nil", n)
		}
		isEmpty(t, o)
		for v := range n {
			if o.Has(v) || o.Activity(v) != 0 {
				t.Fatalf("New(%d): %d has activity %d, waits: %v", n, v, o.Activity(v), o.Has(v))
			}
		}
		for _, v := range []int{-1, n} {
			if o.Push(v) || o.Bump(v, 1) {
				t.Fatalf("New(%d) has a variable %d", n, v)
			}
		}
		if n > 0 {
			pushes(t, o, n-1)
			bumps(t, o, n-1, 2, 2)
			pops(t, o, n-1)
		}
	}
}

func TestNewOfAWrongNumberHasNoVariables(t *testing.T) {
	for _, n := range none {
		if n == api.MaxVars {
			continue
		}
		o := New(n)
		if o == nil {
			t.Fatalf("New(%d) = nil", n)
		}
		for _, v := range append([]int{0, 1, n - 1, n}, none...) {
			if o.Push(v) || o.Has(v) || o.Bump(v, 1) || o.Activity(v) != 0 {
				t.Fatalf("New(%d) has a variable %d", n, v)
			}
		}
		o.Halve()
		isEmpty(t, o)
	}
}

// Promise 8.1: Push, Has and Len.

func TestPush(t *testing.T) {
	o := New(3)
	for i, v := range []int{2, 0, 1} {
		if o.Has(v) || o.Len() != i {
			t.Fatalf("ahead of Push(%d): Has %v, Len %d", v, o.Has(v), o.Len())
		}
		if !o.Push(v) {
			t.Fatalf("Push(%d) = false", v)
		}
		if !o.Has(v) || o.Len() != i+1 {
			t.Fatalf("behind Push(%d): Has %v, Len %d", v, o.Has(v), o.Len())
		}
	}
	pops(t, o, 0, 1, 2)
	isEmpty(t, o)
}

func TestPushOfOneThatWaits(t *testing.T) {
	o := New(2)
	pushes(t, o, 0, 1)
	for range 3 {
		if o.Push(0) || o.Push(1) {
			t.Fatal("Push of one that waits is true")
		}
		if o.Len() != 2 || !o.Has(0) || !o.Has(1) {
			t.Fatalf("Len %d, Has(0) %v, Has(1) %v", o.Len(), o.Has(0), o.Has(1))
		}
	}
	pops(t, o, 0, 1)
	isEmpty(t, o)
}

func TestPushOfOneThatWasTaken(t *testing.T) {
	o := New(3)
	for range 3 {
		pushes(t, o, 0, 1, 2)
		pops(t, o, 0)
		pushes(t, o, 0)
		pops(t, o, 0, 1)
		pushes(t, o, 1, 0)
		pops(t, o, 0, 1, 2)
		isEmpty(t, o)
	}
}

func TestPushOfNone(t *testing.T) {
	for n := range 4 {
		for _, v := range append([]int{n, n + 1}, none...) {
			goesPlain(t, n, []call{{kind: push, v: 0}, {kind: bump, v: 0, by: 5}, {kind: push, v: v}, {kind: push, v: v}, {kind: pop}, {kind: pop}})
		}
	}
}

// Promise 8.1: Pop.

func TestPopWhereNoneWaits(t *testing.T) {
	for n := range 4 {
		o := New(n)
		isEmpty(t, o)
		for v := range n {
			bumps(t, o, v, 3, 3)
		}
		isEmpty(t, o)
		o.Halve()
		isEmpty(t, o)
	}
}

func TestPopWhereOneWaits(t *testing.T) {
	for v := range 4 {
		o := New(4)
		bumps(t, o, (v+1)%4, 9, 9)
		pushes(t, o, v)
		pops(t, o, v)
		if o.Has(v) || o.Len() != 0 {
			t.Fatalf("%d waits behind Pop", v)
		}
		isEmpty(t, o)
	}
}

func TestPopOfTheGreatestActivity(t *testing.T) {
	o := New(5)
	for v, a := range []int{3, 1, 4, 0, 5} {
		bumps(t, o, v, a, a)
	}
	pushes(t, o, 0, 1, 2, 3, 4)
	for i, want := range []int{4, 2, 0, 1, 3} {
		if !o.Has(want) || o.Len() != 5-i {
			t.Fatalf("ahead of Pop: Has(%d) %v, Len %d", want, o.Has(want), o.Len())
		}
		pops(t, o, want)
		if o.Has(want) || o.Len() != 4-i {
			t.Fatalf("behind Pop: Has(%d) %v, Len %d", want, o.Has(want), o.Len())
		}
	}
	isEmpty(t, o)
}

func TestPopOfSeveralTheLeast(t *testing.T) {
	for _, a := range []int{0, 1, 7, top} {
		o := New(6)
		for v := range 6 {
			bumps(t, o, v, a, a)
		}
		pushes(t, o, 5, 3, 4, 0, 2, 1)
		pops(t, o, 0, 1, 2, 3, 4, 5)
		isEmpty(t, o)
	}
}

func TestPopLeavesActivities(t *testing.T) {
	o := New(2)
	bumps(t, o, 1, 6, 6)
	pushes(t, o, 0, 1)
	pops(t, o, 1)
	if o.Activity(1) != 6 || o.Activity(0) != 0 {
		t.Fatalf("activities %d and %d behind Pop", o.Activity(0), o.Activity(1))
	}
	pushes(t, o, 1)
	pops(t, o, 1, 0)
}

// All orders of pushing, of all activities from 0 to 2, of up to five.
func TestAllThatWaitAreTakenInOrder(t *testing.T) {
	for n := range 6 {
		for _, row := range rows(n) {
			for acts := 0; acts < power(3, n); acts++ {
				o, p := New(n), newPlain(n)
				for v, a := 0, acts; v < n; v, a = v+1, a/3 {
					o.Bump(v, a%3)
					p.bump(v, a%3)
				}
				for _, v := range row {
					o.Push(v)
					p.push(v)
				}
				takesAll(t, o, p)
			}
		}
	}
}

// takesAll asks that all that wait come, each once, their activities falling,
// those that are alike by rising numbers; and that this is what p says.
func takesAll(t *testing.T, o *Order, p *plain) {
	t.Helper()
	last, seen := -1, map[int]bool{}
	for range p.len() {
		v, ok := o.Pop()
		if !ok || seen[v] {
			t.Fatalf("Pop() = %d, %v; behind %d", v, ok, last)
		}
		if last >= 0 && (o.Activity(v) > o.Activity(last) || o.Activity(v) == o.Activity(last) && v < last) {
			t.Fatalf("%d with %d behind %d with %d", v, o.Activity(v), last, o.Activity(last))
		}
		if w, _ := p.pop(); w != v {
			t.Fatalf("Pop() = %d; want %d", v, w)
		}
		last, seen[v] = v, true
	}
	isEmpty(t, o)
}

// rows are all orders of the numbers from 0 to n-1.
func rows(n int) [][]int {
	if n == 0 {
		return [][]int{{}}
	}
	var all [][]int
	for _, row := range rows(n - 1) {
		for at := range n {
			all = append(all, slices.Insert(slices.Clone(row), at, n-1))
		}
	}
	return all
}

func power(a, n int) int {
	p := 1
	for range n {
		p *= a
	}
	return p
}

// Promise 8.1: Has.

func TestHas(t *testing.T) {
	o := New(3)
	pushes(t, o, 1)
	for v, want := range []bool{false, true, false} {
		for range 2 {
			if got := o.Has(v); got != want {
				t.Fatalf("Has(%d) = %v", v, got)
			}
		}
	}
	for _, v := range append([]int{3, 4}, none...) {
		if o.Has(v) {
			t.Fatalf("Has(%d) = true", v)
		}
	}
	pops(t, o, 1)
	if o.Has(1) {
		t.Fatal("Has(1) behind Pop")
	}
}

// Promise 8.1: Bump.

func TestBumpOfOneThatWaits(t *testing.T) {
	o := New(4)
	pushes(t, o, 0, 1, 2, 3)
	bumps(t, o, 3, 1, 1)
	bumps(t, o, 2, 2, 2)
	pops(t, o, 2, 3, 0, 1)

	pushes(t, o, 0, 1, 2, 3) // with 0, 0, 2, 1
	bumps(t, o, 2, -2, 0)
	bumps(t, o, 0, 1, 1)
	bumps(t, o, 3, -1, 0)
	pops(t, o, 0, 1, 2, 3)
	isEmpty(t, o)
}

// Of those that wait, one is moved from each place to each other.
func TestBumpUpAndDownToEachPlace(t *testing.T) {
	for n := 1; n <= 12; n++ {
		for v := range n {
			for to := -1; to <= 20*n; to += 5 {
				o, p := New(n), newPlain(n)
				for w := range n {
					c := call{kind: bump, v: w, by: 10 * (w*5%n + 1)}
					c.of(o)
					c.ofPlain(p)
					o.Push(w)
					p.push(w)
				}
				by := to - p.activity[v]
				o.Bump(v, by)
				p.bump(v, by)
				alike(t, o, p, "Bump")
				takesAll(t, o, p)
			}
		}
	}
}

func TestBumpOfOneThatDoesNotWait(t *testing.T) {
	o := New(3)
	pushes(t, o, 0, 1)
	bumps(t, o, 2, 4, 4)
	if o.Has(2) || o.Len() != 2 {
		t.Fatal("Bump let 2 wait")
	}
	pops(t, o, 0)
	pushes(t, o, 2)
	pops(t, o, 2, 1)
	bumps(t, o, 2, -3, 1)
	bumps(t, o, 0, 1, 1)
	pushes(t, o, 2, 1, 0)
	pops(t, o, 0, 2, 1)
	isEmpty(t, o)
}

func TestBumpBy0(t *testing.T) {
	o := New(2)
	pushes(t, o, 1)
	bumps(t, o, 0, 0, 0)
	bumps(t, o, 1, 0, 0)
	bumps(t, o, 1, 5, 5)
	bumps(t, o, 1, 0, 5)
	pushes(t, o, 0)
	pops(t, o, 1, 0)
}

func TestBumpAboveTheGreatest(t *testing.T) {
	edges := []struct{ from, by, want int }{
		{0, top - 1, top - 1}, {0, top, top}, {0, top + 1, top}, {1, top - 1, top}, {1, top, top},
		{top - 1, 1, top}, {top - 1, 2, top}, {top, 0, top}, {top, 1, top}, {top, top, top},
		{0, math.MaxInt, top}, {1, math.MaxInt, top}, {top, math.MaxInt, top}, {5, math.MaxInt - 5, top},
		{top, -1, top - 1}, {top, -top, 0}, {top, 1 - top, 1},
	}
	for _, e := range edges {
		for _, waits := range []bool{false, true} {
			o := New(2)
			if waits {
				pushes(t, o, 1)
			}
			bumps(t, o, 1, e.from, e.from)
			bumps(t, o, 1, e.by, e.want)
			if o.Activity(0) != 0 || o.Has(1) != waits {
				t.Fatal("Bump(1) touched more than the activity of 1")
			}
		}
	}
}

func TestBumpBelow0(t *testing.T) {
	edges := []struct{ from, by, want int }{
		{0, -1, 0}, {0, -top, 0}, {0, math.MinInt, 0}, {0, math.MinInt + 1, 0}, {0, -math.MaxInt, 0},
		{5, -4, 1}, {5, -5, 0}, {5, -6, 0}, {5, math.MinInt, 0}, {5, math.MinInt + 5, 0},
		{top, -top - 1, 0}, {top, math.MinInt, 0}, {top, math.MinInt + top, 0},
	}
	for _, e := range edges {
		for _, waits := range []bool{false, true} {
			o := New(2)
			if waits {
				pushes(t, o, 1)
			}
			bumps(t, o, 1, e.from, e.from)
			bumps(t, o, 1, e.by, e.want)
			bumps(t, o, 1, 1, e.want+1)
		}
	}
}

func TestBumpPastTheBoundsByManySteps(t *testing.T) {
	o := New(3)
	pushes(t, o, 0, 1)
	const step = top / 8
	for i := 1; i <= 20; i++ {
		bumps(t, o, 1, step, min(i*step, top))
	}
	for i := 1; i <= 20; i++ {
		bumps(t, o, 1, -step-1, max(top-i*(step+1), 0))
	}
	for i := 1; i <= 20; i++ {
		bumps(t, o, 0, math.MaxInt, top)
		bumps(t, o, 1, math.MaxInt, top)
	}
	pops(t, o, 0, 1)
	for i := 1; i <= 20; i++ {
		bumps(t, o, 0, math.MinInt, 0)
	}
	pushes(t, o, 1, 0)
	pops(t, o, 1, 0)
}

func TestBumpOfNone(t *testing.T) {
	for n := range 4 {
		for _, v := range append([]int{n, n + 1}, none...) {
			for _, by := range []int{0, 1, -1, math.MaxInt, math.MinInt} {
				goesPlain(t, n, []call{{kind: push, v: 0}, {kind: bump, v: v, by: by}, {kind: pop}, {kind: pop}})
			}
		}
	}
}

// Promise 8.1: Halve.

func TestHalve(t *testing.T) {
	for _, waiting := range [][]int{{}, {6}, {0, 3}, {6, 5, 4, 3, 2, 1, 0}} {
		o := New(7)
		acts := []int{0, 1, 2, 3, 8, 9, top}
		for v, a := range acts {
			bumps(t, o, v, a, a)
		}
		pushes(t, o, waiting...)
		o.Halve()
		for v, want := range []int{0, 0, 1, 1, 4, 4, top / 2} {
			if got := o.Activity(v); got != want {
				t.Fatalf("half of %d: %d", acts[v], got)
			}
		}
		if o.Len() != len(waiting) {
			t.Fatalf("Len() = %d behind Halve; want %d", o.Len(), len(waiting))
		}
	}
}

func TestHalveDownTo0(t *testing.T) {
	o := New(2)
	bumps(t, o, 1, top, top)
	pushes(t, o, 0, 1)
	for want := top / 2; want > 0; want /= 2 {
		o.Halve()
		if got := o.Activity(1); got != want {
			t.Fatalf("Activity(1) = %d; want %d", got, want)
		}
	}
	for range 3 {
		o.Halve()
		if o.Activity(1) != 0 || o.Activity(0) != 0 {
			t.Fatal("half of 1 or 0 is not 0")
		}
	}
	pops(t, o, 0, 1)
}

func TestAlikeOnlyBehindHalve(t *testing.T) {
	o := New(2)
	pushes(t, o, 0, 1)
	bumps(t, o, 0, 2, 2)
	bumps(t, o, 1, 3, 3)
	o.Halve()
	pops(t, o, 0, 1)
	isEmpty(t, o)

	o = New(2)
	bumps(t, o, 1, 1, 1)
	pushes(t, o, 0, 1)
	o.Halve()
	pops(t, o, 0, 1)
	isEmpty(t, o)
}

// All that wait have activities that rise with their numbers, so that all must
// change places where they come to be alike.
func TestManyAlikeOnlyBehindHalve(t *testing.T) {
	for n := range 40 {
		for times := range 8 {
			o, p := New(n), newPlain(n)
			for v := range n {
				bumps(t, o, v, v, v)
				p.bump(v, v)
				o.Push(v)
				p.push(v)
			}
			for range times {
				o.Halve()
				p.halve()
			}
			alike(t, o, p, "Halve")
			takesAll(t, o, p)
		}
	}
}

// Promise 8.1: Activity.

func TestActivity(t *testing.T) {
	o := New(3)
	pushes(t, o, 1)
	bumps(t, o, 0, 7, 7)
	bumps(t, o, 1, 8, 8)
	for v, want := range []int{7, 8, 0} {
		for range 2 {
			if got := o.Activity(v); got != want {
				t.Fatalf("Activity(%d) = %d", v, got)
			}
		}
	}
	for _, v := range append([]int{3, 4}, none...) {
		if got := o.Activity(v); got != 0 {
			t.Fatalf("Activity(%d) = %d", v, got)
		}
	}
	if o.Has(0) || !o.Has(1) || o.Len() != 1 {
		t.Fatal("Activity has changed who waits")
	}
}

// Promise 8.1: all calls, on nil.

func TestNil(t *testing.T) {
	var o *Order
	for range 2 {
		for _, v := range append([]int{0, 1, 2}, none...) {
			if o.Push(v) || o.Has(v) || o.Activity(v) != 0 {
				t.Fatalf("nil has a variable %d", v)
			}
			for _, by := range []int{0, 1, -1, math.MaxInt, math.MinInt} {
				if o.Bump(v, by) {
					t.Fatalf("Bump(%d, %d) of nil is true", v, by)
				}
			}
		}
		o.Halve()
		isEmpty(t, o)
	}
}

// Promise 8.1: all calls, in rows.

// All rows of up to six calls of an order of two variables, in which activities
// are alike, differ, and come to be alike.
func TestAllShortRows(t *testing.T) {
	kinds := []call{{kind: push, v: 0}, {kind: push, v: 1}, {kind: pop}, {kind: halve},
		{kind: bump, v: 0, by: 2}, {kind: bump, v: 1, by: 3}, {kind: bump, v: 1, by: -2}}
	const long = 6
	row := make([]call, long)
	for number := range power(len(kinds), long) {
		for i := range row {
			row[i] = kinds[number%len(kinds)]
			number /= len(kinds)
		}
		o, p := New(2), newPlain(2)
		for i, c := range row {
			got, want := c.of(o), c.ofPlain(p)
			same := o.Len() == p.len()
			for v := range 2 {
				same = same && o.Has(v) == p.waits[v] && o.Activity(v) == p.activity[v]
			}
			if got != want || !same {
				t.Fatalf("%v: the last told %v; want %v, and %v", row[:i+1], got, want, p)
			}
		}
	}
}

// aRow makes calls of all kinds on variables of and beside an order of n, with
// activities in a span in which many are alike, or few.
func aRow(r *rand.Rand, n, long, span int) []call {
	row := make([]call, long)
	for i := range row {
		c := call{v: r.Intn(n+1) - r.Intn(2)}
		switch k := r.Intn(20); {
		case k < 8:
			c.kind = push
		case k < 13:
			c.kind = pop
		case k < 19:
			c.kind, c.by = bump, r.Intn(span)-span/3
		default:
			c.kind = halve
		}
		if c.kind == bump && r.Intn(40) == 0 {
			c.by = []int{math.MaxInt, math.MinInt, top, -top, 0}[r.Intn(5)]
		}
		row[i] = c
	}
	return row
}

func TestLongRows(t *testing.T) {
	r := rand.New(rand.NewSource(8))
	for n := range 12 {
		for _, span := range []int{2, 5, 1000, top / 4} {
			for range 8 {
				goesPlainQuietly(t, n, aRow(r, n, 300, span))
			}
		}
	}
}

func TestLongRowsOfLargerOrders(t *testing.T) {
	r := rand.New(rand.NewSource(88))
	for _, n := range []int{31, 32, 33, 100, 255, 500} {
		for _, span := range []int{2, 20, top / 4} {
			goesPlainQuietly(t, n, aRow(r, n, 2000, span))
		}
	}
}

// goesPlainQuietly is goesPlain but that it tells the place of a fault alone,
// since long rows would be put into words at each call. In the end it takes
// all that wait.
func goesPlainQuietly(t *testing.T, n int, row []call) {
	t.Helper()
	o, p := New(n), newPlain(n)
	for i, c := range row {
		if got, want := c.of(o), c.ofPlain(p); got != want {
			t.Fatalf("New(%d), call %d, %v: told %v; want %v", n, i, c, got, want)
		}
		alike(t, o, p, "a long row")
	}
	takesAll(t, o, p)
}

func TestSameRowAgain(t *testing.T) {
	row := aRow(rand.New(rand.NewSource(888)), 20, 1000, 50)
	var first []answer
	for again := range 3 {
		o := New(20)
		for i, c := range row {
			got := c.of(o)
			if again == 0 {
				first = append(first, got)
			} else if got != first[i] {
				t.Fatalf("call %d, %v: told %v, then %v", i, c, first[i], got)
			}
		}
	}
}

func TestTwoOrdersInTurns(t *testing.T) {
	r := rand.New(rand.NewSource(8888))
	o1, o2, p1, p2 := New(9), New(9), newPlain(9), newPlain(9)
	row1, row2 := aRow(r, 9, 1000, 10), aRow(r, 9, 1000, 10)
	for i := range row1 {
		if got, want := row1[i].of(o1), row1[i].ofPlain(p1); got != want {
			t.Fatalf("%v: %v; want %v", row1[i], got, want)
		}
		alike(t, o2, p2, "a call of the other")
		if got, want := row2[i].of(o2), row2[i].ofPlain(p2); got != want {
			t.Fatalf("%v: %v; want %v", row2[i], got, want)
		}
		alike(t, o1, p1, "a call of the other")
	}
}

func TestOrdersAtTheSameTime(t *testing.T) {
	row := aRow(rand.New(rand.NewSource(88888)), 50, 3000, 40)
	told := make([][]answer, 4)
	var all sync.WaitGroup
	for i := range told {
		all.Go(func() {
			o := New(50)
			for _, c := range row {
				told[i] = append(told[i], c.of(o))
			}
		})
	}
	all.Wait()
	p := newPlain(50)
	for at, c := range row {
		want := c.ofPlain(p)
		for i := range told {
			if told[i][at] != want {
				t.Fatalf("order %d, call %d, %v: %v; want %v", i, at, c, told[i][at], want)
			}
		}
	}
}

// The greatest order there is: all wait, and are taken. A look at all that wait
// for each of them would not come to an end here.
func TestMaxVarsWait(t *testing.T) {
	const n = api.MaxVars
	o := New(n)
	act := func(v int) int { return v * 7919 % n / 4 * 2 }
	for v := range n {
		if !o.Bump(v, act(v)) || !o.Push(v) {
			t.Fatalf("%d is no variable", v)
		}
	}
	o.Halve()
	last := -1
	for i := range n {
		v, ok := o.Pop()
		if !ok || o.Has(v) || o.Len() != n-1-i || o.Activity(v) != act(v)/2 {
			t.Fatalf("Pop() = %d, %v; Len() = %d", v, ok, o.Len())
		}
		if last >= 0 && (act(v) > act(last) || act(v) == act(last) && v < last) {
			t.Fatalf("%d behind %d", v, last)
		}
		last = v
	}
	isEmpty(t, o)
}
