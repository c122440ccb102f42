package gate

import (
	"fmt"
	"math/rand"
	"slices"
	"testing"

	"breakwater/unit"
)

// kind is a gate: how it is asked for, and what it says where what is handed
// in has the truths b.
type kind struct {
	name   string
	places int
	ask    func(g *Gates, l []int) int
	says   func(b []bool) bool
}

var kinds = []*kind{
	{"And", 2, func(g *Gates, l []int) int { return g.And(l[0], l[1]) }, func(b []bool) bool { return count(b) == 2 }},
	{"Or", 2, func(g *Gates, l []int) int { return g.Or(l[0], l[1]) }, func(b []bool) bool { return count(b) >= 1 }},
	{"Xor", 2, func(g *Gates, l []int) int { return g.Xor(l[0], l[1]) }, func(b []bool) bool { return count(b) == 1 }},
	{"Ite", 3, func(g *Gates, l []int) int { return g.Ite(l[0], l[1], l[2]) }, func(b []bool) bool {
		if b[0] {
			return b[1]
		}
		return b[2]
	}},
	{"Maj", 3, func(g *Gates, l []int) int { return g.Maj(l[0], l[1], l[2]) }, func(b []bool) bool { return count(b) >= 2 }},
}

// always is True as a gate of no places.
var always = &kind{"True", 0, func(g *Gates, _ []int) int { return g.True() }, func([]bool) bool { return true }}

func count(b []bool) int {
	n := 0
	for _, x := range b {
		if x {
			n++
		}
	}
	return n
}

// ref is a literal that was told at a step, or its Not.
type ref struct {
	at  int
	not bool
}

// step is a call that told a literal: of a gate, or, with no kind, of Input.
type step struct {
	kind *kind
	of   []ref
}

// row is calls of the same gates, one behind the other, and what they told.
type row struct {
	g      *Gates
	inputs int
	steps  []step
	lits   []int
}

func newRow() *row { return &row{g: New()} }

func (r *row) input() ref {
	r.inputs++
	r.steps = append(r.steps, step{})
	r.lits = append(r.lits, r.g.Input())
	return ref{at: len(r.lits) - 1}
}

func (r *row) gate(k *kind, of ...ref) ref {
	r.steps = append(r.steps, step{kind: k, of: of})
	r.lits = append(r.lits, k.ask(r.g, r.all(of)))
	return ref{at: len(r.lits) - 1}
}

// all are the literals of refs.
func (r *row) all(refs []ref) []int {
	var l []int
	for _, f := range refs {
		x := r.lits[f.at]
		if f.not {
			x ^= 1
		}
		l = append(l, x)
	}
	return l
}

func not(f ref) ref { return ref{at: f.at, not: !f.not} }

// truths are those of all that was told, step by step, where the inputs have
// these; no clause plays a part.
func (r *row) truths(in []bool) []bool {
	var out []bool
	for _, s := range r.steps {
		if s.kind == nil {
			out = append(out, in[0])
			in = in[1:]
			continue
		}
		var b []bool
		for _, f := range s.of {
			b = append(b, out[f.at] != f.not)
		}
		out = append(out, s.kind.says(b))
	}
	return out
}

// set are the inputs' literals that hold where the inputs have these truths.
func (r *row) set(in []bool) []int {
	var l []int
	for i, s := range r.steps {
		if s.kind != nil {
			continue
		}
		x := r.lits[i]
		if !in[0] {
			x ^= 1
		}
		l, in = append(l, x), in[1:]
	}
	return l
}

// follows asks that what promise 19.2 says holds of the whole row where the
// inputs have these truths.
func (r *row) follows(t *testing.T, in []bool) {
	t.Helper()
	held, ok := unit.Close(r.g.Clauses(), r.set(in))
	if !ok {
		t.Fatalf("%v: Close is false where the inputs are %v", r, in)
	}
	for i, is := range r.truths(in) {
		x := r.lits[i]
		if !is {
			x ^= 1
		}
		if !has(held, x) || has(held, x^1) {
			t.Fatalf("%v: step %d told %d, which is to be %v where the inputs are %v; Close has it %v, its Not %v",
				r, i, r.lits[i], is, in, has(held, r.lits[i]), has(held, r.lits[i]^1))
		}
	}
}

func has(rising []int, x int) bool {
	_, is := slices.BinarySearch(rising, x)
	return is
}

// allTruths calls do with all lists of n truths.
func allTruths(n int, do func(in []bool)) {
	for bits := range 1 << n {
		in := make([]bool, n)
		for i := range in {
			in[i] = bits>>i&1 == 1
		}
		do(in)
	}
}

// followsAll is follows under all truths of the inputs.
func (r *row) followsAll(t *testing.T) {
	t.Helper()
	allTruths(r.inputs, func(in []bool) { r.follows(t, in) })
}

func (r *row) String() string {
	s := ""
	for i, p := range r.steps[:min(len(r.steps), 12)] {
		name := "Input"
		if p.kind != nil {
			name = p.kind.name
		}
		s += fmt.Sprintf("%s%v=%d ", name, r.all(p.of), r.lits[i])
	}
	return s
}

// tuples calls do with all lists of n refs.
func tuples(n int, from []ref, do func(of []ref)) {
	if n == 0 {
		do(nil)
		return
	}
	tuples(n-1, from, func(of []ref) {
		for _, f := range from {
			do(append(slices.Clone(of), f))
		}
	})
}

// pool lays literals of all kinds in a new row: of three inputs, True, and
// gates of them, and the Nots of all.
func pool() (*row, []ref) {
	r := newRow()
	x, y, z := r.input(), r.input(), r.input()
	all := []ref{x, y, z, r.gate(always), r.gate(kinds[0], x, y), r.gate(kinds[2], y, z), r.gate(kinds[4], x, y, z)}
	for _, f := range slices.Clone(all) {
		all = append(all, not(f))
	}
	return r, all
}

// grow puts so many calls behind those of the row, inputs among them; of the
// literals that were told the last so many are handed in, and inputs, without
// which gates of one another soon come to say the same.
func (r *row) grow(rnd *rand.Rand, calls, last, inputs int) {
	pick := func() ref {
		n := len(r.lits)
		at := n - 1 - rnd.Intn(min(n, last))
		for back := rnd.Intn(2) * 100; back > 0 && r.steps[at].kind != nil; back-- {
			at = rnd.Intn(n)
		}
		return ref{at: at, not: rnd.Intn(2) == 0}
	}
	for range calls {
		switch n := rnd.Intn(20); {
		case len(r.lits) == 0 || n < 3 && r.inputs < inputs:
			r.input()
		case n == 3:
			r.gate(always)
		default:
			k := kinds[rnd.Intn(len(kinds))]
			var of []ref
			for range k.places {
				of = append(of, pick())
			}
			r.gate(k, of...)
		}
	}
}

// someTruths are n truths at random.
func someTruths(rnd *rand.Rand, n int) []bool {
	in := make([]bool, n)
	for i := range in {
		in[i] = rnd.Intn(2) == 0
	}
	return in
}

// Many calls of one another, each held against what it says: few inputs under
// all truths, more of them under some.
func TestRandomRows(t *testing.T) {
	for seed := range int64(400) {
		rnd := rand.New(rand.NewSource(seed))
		r := newRow()
		r.grow(rnd, 1+rnd.Intn(60), 1+rnd.Intn(20), 4)
		r.followsAll(t)
	}
	for seed := range int64(60) {
		rnd := rand.New(rand.NewSource(1000 + seed))
		r := newRow()
		for range 10 {
			r.grow(rnd, 100, 1+rnd.Intn(200), 1+rnd.Intn(60))
			for range 8 {
				r.follows(t, someTruths(rnd, r.inputs))
			}
		}
	}
}

// What was told is as it says behind each call, not just at the end.
func TestRandomRowsCallByCall(t *testing.T) {
	for seed := range int64(60) {
		rnd := rand.New(rand.NewSource(2000 + seed))
		r := newRow()
		for range 40 {
			r.grow(rnd, 1, 8, 3)
			r.followsAll(t)
		}
	}
}

func TestLargeRow(t *testing.T) {
	rnd := rand.New(rand.NewSource(7))
	r := newRow()
	r.grow(rnd, 200000, 3000, 200)
	for range 3 {
		r.follows(t, someTruths(rnd, r.inputs))
	}
}
