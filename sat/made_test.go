package sat

import (
	"fmt"
	"math/rand"
	"reflect"
	"slices"
	"testing"

	"breakwater/api"
	"breakwater/cnf"
	"breakwater/rup"
)

// plenty is more conflicts than any search here wants.
const plenty = 1 << 40

// all8 is how many clauses of eight variables there are: each of these is
// there, or its negation is, or neither.
const all8 = 3 * 3 * 3 * 3 * 3 * 3 * 3 * 3

// problem is what Solve is asked, but for the budget.
type problem struct {
	name string
	vars int
	l    [][]int
}

func (p problem) String() string {
	if len(p.l) > 12 {
		return fmt.Sprintf("%s (%d variables, %d clauses: %v ..)", p.name, p.vars, len(p.l), p.l[:12])
	}
	return fmt.Sprintf("%s (%d variables: %v)", p.name, p.vars, p.l)
}

func of(vars int, l ...[]int) problem { return problem{name: "list", vars: vars, l: l} }

// with tells p with clauses more, which stand ahead of its own.
func (p problem) with(more ...[]int) problem {
	return problem{name: p.name + " and more", vars: p.vars, l: slices.Concat(more, p.l)}
}

// without tells p without the clause at that place.
func (p problem) without(place int) problem {
	return problem{name: p.name + " without one", vars: p.vars, l: slices.Delete(slices.Clone(p.l), place, place+1)}
}

// mixed tells p with its clauses in another order, and its literals too.
func (p problem) mixed(r *rand.Rand) problem {
	m := problem{name: p.name + " mixed", vars: p.vars, l: copied(p.l)}
	r.Shuffle(len(m.l), func(i, j int) { m.l[i], m.l[j] = m.l[j], m.l[i] })
	for _, c := range m.l {
		r.Shuffle(len(c), func(i, j int) { c[i], c[j] = c[j], c[i] })
	}
	return m
}

func copied(l [][]int) [][]int {
	out := make([][]int, len(l))
	for i, c := range l {
		out[i] = slices.Clone(c)
	}
	return out
}

// solved calls Solve, which must not refuse, and asks of the Result all that
// the chapter says of each.
func solved(t *testing.T, p problem, budget int) api.Result {
	t.Helper()
	r, e := Solve(p.vars, p.l, budget)
	if e != api.OK {
		t.Fatalf("%v with budget %d: error %d", p, budget, e)
	}
	if r.Conflicts < 0 || r.Conflicts > budget {
		t.Fatalf("%v with budget %d: %d conflicts", p, budget, r.Conflicts)
	}
	if p.vars <= 8 && r.Conflicts > all8 {
		t.Fatalf("%v: %d conflicts", p, r.Conflicts)
	}
	switch r.Status {
	case api.Sat:
		isModel(t, p, r)
	case api.Unsat:
		isProof(t, p, r)
	case api.Unknown:
		isNothing(t, p, r, budget)
	default:
		t.Fatalf("%v: status %d", p, r.Status)
	}
	return r
}

func isModel(t *testing.T, p problem, r api.Result) {
	t.Helper()
	if len(r.Model) != p.vars {
		t.Fatalf("%v: a model of %d truths", p, len(r.Model))
	}
	if place := cnf.Holds(p.l, r.Model); place != -1 {
		t.Fatalf("%v: the clause %v does not hold in the model", p, p.l[place])
	}
	if len(r.Proof) != 0 {
		t.Fatalf("%v: Sat, and a proof of %d clauses", p, len(r.Proof))
	}
}

func isProof(t *testing.T, p problem, r api.Result) {
	t.Helper()
	if !rup.Refutes(p.l, r.Proof) {
		t.Fatalf("%v: a proof of %d clauses that does not refute, bad at %d", p, len(r.Proof), rup.Check(p.l, r.Proof))
	}
	if len(r.Model) != 0 {
		t.Fatalf("%v: Unsat, and a model of %d truths", p, len(r.Model))
	}
}

func isNothing(t *testing.T, p problem, r api.Result, budget int) {
	t.Helper()
	if r.Conflicts != budget {
		t.Fatalf("%v with budget %d: Unknown with %d conflicts", p, budget, r.Conflicts)
	}
	if len(r.Model) != 0 || len(r.Proof) != 0 {
		t.Fatalf("%v with budget %d: Unknown, and a model of %d truths, a proof of %d clauses", p, budget, len(r.Model), len(r.Proof))
	}
}

// is asks that p, with as many conflicts as are wanted, has that status.
func is(t *testing.T, p problem, status int) api.Result {
	t.Helper()
	r := solved(t, p, plenty)
	if r.Status != status {
		t.Fatalf("%v: status %d, want %d", p, r.Status, status)
	}
	return r
}

// isAsCounted asks that p, of few variables, is Sat just where chapter 4 counts
// some lists of truths, and Unsat just where it counts none.
func isAsCounted(t *testing.T, p problem, budget int) api.Result {
	t.Helper()
	n, e := cnf.Count(p.vars, p.l)
	if e != api.OK {
		t.Fatalf("%v: Count's error %d", p, e)
	}
	want := api.Sat
	if n == 0 {
		want = api.Unsat
	}
	r := solved(t, p, budget)
	if r.Status != want {
		t.Fatalf("%v: status %d, and %d lists of truths", p, r.Status, n)
	}
	return r
}

func same(a, b api.Result) bool { return reflect.DeepEqual(a, b) }

// anyClauses are n clauses of up to most literals of so many variables; a
// literal may be there twice, or with its Not.
func anyClauses(r *rand.Rand, vars, n, most int) problem {
	p := problem{name: "any", vars: vars}
	for range n {
		c := make([]int, r.Intn(most+1))
		for i := range c {
			c[i] = r.Intn(2 * vars)
		}
		p.l = append(p.l, c)
	}
	return p
}

// wide are n clauses, each of that many variables that differ.
func wide(r *rand.Rand, vars, n, size int) problem {
	p := problem{name: "wide", vars: vars}
	for range n {
		var c []int
		for _, v := range r.Perm(vars)[:size] {
			c = append(c, 2*v+r.Intn(2))
		}
		p.l = append(p.l, c)
	}
	return p
}

// threes are clauses of three literals, as many as near which half of such
// problems have a model.
func threes(r *rand.Rand, vars int) problem { return wide(r, vars, vars*426/100+4, min(3, vars)) }

// whole are all clauses that have each of the variables: none of all lists of
// truths is left.
func whole(vars int) problem {
	p := problem{name: "whole", vars: vars}
	for bits := range 1 << vars {
		var c []int
		for v := range vars {
			c = append(c, 2*v+bits>>v&1)
		}
		p.l = append(p.l, c)
	}
	return p
}

// holes are pigeons, each of which sits in a hole, and none with another.
func holes(pigeons, n int) problem {
	p := problem{name: fmt.Sprintf("%d pigeons, %d holes", pigeons, n), vars: pigeons * n}
	for i := range pigeons {
		var c []int
		for h := range n {
			c = append(c, 2*(i*n+h))
		}
		p.l = append(p.l, c)
	}
	for h := range n {
		for i := range pigeons {
			for j := range i {
				p.l = append(p.l, []int{2*(i*n+h) + 1, 2*(j*n+h) + 1})
			}
		}
	}
	return p
}

// chain lets each variable be true if the one ahead of it is.
func chain(vars int) problem {
	p := problem{name: "chain", vars: vars}
	for v := range vars - 1 {
		p.l = append(p.l, []int{2*v + 1, 2*v + 2})
	}
	return p
}

// odd tells the clauses by which an odd number of these variables is true, or
// an even one.
func odd(is bool, vars ...int) [][]int {
	var l [][]int
	for bits := range 1 << len(vars) {
		ones := 0
		var c []int
		for i, v := range vars {
			ones += bits >> i & 1
			c = append(c, 2*v+bits>>i&1)
		}
		if (ones%2 == 1) != is {
			l = append(l, c)
		}
	}
	return l
}

// sums is a grid that closes on itself, with a variable on each of its edges:
// at each knot the number of those that are true is even, but at those of
// uneven. Each edge is at two knots, so that there must be an even number of
// these.
func sums(width, height int, uneven ...int) problem {
	p := problem{name: fmt.Sprintf("sums %d %d %v", width, height, uneven), vars: 2 * width * height}
	right := func(x, y int) int { return 2 * ((y+height)%height*width + (x+width)%width) }
	down := func(x, y int) int { return right(x, y) + 1 }
	for y := range height {
		for x := range width {
			is := slices.Contains(uneven, y*width+x)
			p.l = append(p.l, odd(is, right(x, y), right(x-1, y), down(x, y), down(x, y-1))...)
		}
	}
	return p
}

// product lets the product of two numbers of so many bits be n, neither of them
// being 1. The variables of the first are 0 and on, then come the second's.
func product(width, n int) problem {
	c := circuit{vars: 2 * width}
	sum := make([]int, 2*width)
	for i := range sum {
		sum[i] = c.no()
	}
	for i := range width {
		carry := c.no()
		for j := range width {
			a, b := sum[i+j], c.and(2*i, 2*(width+j))
			half := c.xor(a, b)
			sum[i+j], carry = c.xor(half, carry), c.and(c.and(a, b)^1, c.and(half, carry)^1)^1
		}
		sum[i+width] = carry
	}
	for i, x := range sum {
		c.l = append(c.l, []int{x ^ (n>>i&1 ^ 1)})
	}
	for side := range 2 {
		var over []int
		for i := 1; i < width; i++ {
			over = append(over, 2*(side*width+i))
		}
		c.l = append(c.l, over)
	}
	return problem{name: fmt.Sprintf("product %d", n), vars: c.vars, l: c.l}
}

// circuit is made of gates, each a variable more.
type circuit struct {
	vars int
	l    [][]int
}

func (c *circuit) add(l ...[]int) int {
	c.l = append(c.l, l...)
	c.vars++
	return 2*c.vars - 2
}

func (c *circuit) no() int { return c.add([]int{2*c.vars + 1}) }

func (c *circuit) and(a, b int) int {
	x := 2 * c.vars
	return c.add([]int{x ^ 1, a}, []int{x ^ 1, b}, []int{x, a ^ 1, b ^ 1})
}

func (c *circuit) xor(a, b int) int {
	x := 2 * c.vars
	return c.add([]int{x ^ 1, a, b}, []int{x ^ 1, a ^ 1, b ^ 1}, []int{x, a ^ 1, b}, []int{x, a, b ^ 1})
}
