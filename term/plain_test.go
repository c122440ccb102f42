package term

import (
	"fmt"
	"math/rand"
	"testing"

	"breakwater/api"
)

// maker is what a Dag and its plain counterpart have in common.
type maker interface {
	Const(w int, x uint64) (int, api.Errno)
	Var(w, i int) (int, api.Errno)
	Unary(op, a int) (int, api.Errno)
	Binary(op, a, b int) (int, api.Errno)
	Ite(c, a, b int) (int, api.Errno)
	Extract(a, lo, w int) (int, api.Errno)
	Concat(a, b int) (int, api.Errno)
	Extend(a, w int, signed bool) (int, api.Errno)
	Node(id int) (api.Node, bool)
	Width(id int) int
	Len() int
}

// call is one of the calls that make terms, with what it is handed.
type call struct {
	name    string
	x, y, z int
	val     uint64
	signed  bool
}

func constOf(w int, x uint64) call      { return call{name: "Const", x: w, val: x} }
func varOf(w, i int) call               { return call{name: "Var", x: w, y: i} }
func unary(op, a int) call              { return call{name: "Unary", x: op, y: a} }
func binary(op, a, b int) call          { return call{name: "Binary", x: op, y: a, z: b} }
func ite(c, a, b int) call              { return call{name: "Ite", x: c, y: a, z: b} }
func extract(a, lo, w int) call         { return call{name: "Extract", x: a, y: lo, z: w} }
func concat(a, b int) call              { return call{name: "Concat", x: a, y: b} }
func extend(a, w int, signed bool) call { return call{name: "Extend", x: a, y: w, signed: signed} }

func (c call) String() string {
	return fmt.Sprintf("%s{%d %d %d %#x %v}", c.name, c.x, c.y, c.z, c.val, c.signed)
}

func (c call) on(d maker) (int, api.Errno) {
	switch c.name {
	case "Const":
		return d.Const(c.x, c.val)
	case "Var":
		return d.Var(c.x, c.y)
	case "Unary":
		return d.Unary(c.x, c.y)
	case "Binary":
		return d.Binary(c.x, c.y, c.z)
	case "Ite":
		return d.Ite(c.x, c.y, c.z)
	case "Extract":
		return d.Extract(c.x, c.y, c.z)
	case "Concat":
		return d.Concat(c.x, c.y)
	case "Extend":
		return d.Extend(c.x, c.y, c.signed)
	}
	panic("no such call: " + c.name)
}

// plain is a list of terms, in which each is looked for one by one.
type plain struct {
	most int
	list []api.Node
}

func (p *plain) Len() int { return len(p.list) }

func (p *plain) Node(id int) (api.Node, bool) {
	for i, n := range p.list {
		if i == id {
			return n, true
		}
	}
	return api.Node{}, false
}

func (p *plain) Width(id int) int {
	for i, n := range p.list {
		if i == id {
			return n.Width
		}
	}
	return 0
}

// none tells whether one of ids is no term; terms alone have a width.
func (p *plain) none(ids ...int) bool {
	for _, id := range ids {
		if p.Width(id) == 0 {
			return true
		}
	}
	return false
}

// add puts the fields of n together with those of each term in the list.
func (p *plain) add(n api.Node) (int, api.Errno) {
	for i, m := range p.list {
		if m.Op == n.Op && m.Width == n.Width && m.A == n.A && m.B == n.B && m.C == n.C && m.Val == n.Val {
			return i, api.OK
		}
	}
	if len(p.list) == p.most {
		return 0, api.ErrLimit
	}
	p.list = append(p.list, n)
	return len(p.list) - 1, api.OK
}

func (p *plain) Const(w int, x uint64) (int, api.Errno) {
	if w <= 0 || w > 64 {
		return 0, api.ErrWidth
	}
	if w < 64 {
		x %= 1 << w
	}
	return p.add(api.Node{Op: api.TermConst, Width: w, Val: x})
}

func (p *plain) Var(w, i int) (int, api.Errno) {
	if w <= 0 || w > 64 {
		return 0, api.ErrWidth
	}
	if i < 0 || i > 255 {
		return 0, api.ErrVar
	}
	for _, n := range p.list {
		if n.Op == api.TermVar && n.A == i && n.Width != w {
			return 0, api.ErrWidth
		}
	}
	return p.add(api.Node{Op: api.TermVar, Width: w, A: i})
}

func (p *plain) Unary(op, a int) (int, api.Errno) {
	if op != 15 && op != 16 {
		return 0, api.ErrOp
	}
	if p.none(a) {
		return 0, api.ErrTerm
	}
	return p.add(api.Node{Op: op, Width: p.Width(a), A: a})
}

func (p *plain) Binary(op, a, b int) (int, api.Errno) {
	if op < 1 || op > 14 {
		return 0, api.ErrOp
	}
	if p.none(a, b) {
		return 0, api.ErrTerm
	}
	w := p.Width(a)
	if w != p.Width(b) {
		return 0, api.ErrWidth
	}
	if op >= 12 {
		w = 1
	}
	return p.add(api.Node{Op: op, Width: w, A: a, B: b})
}

func (p *plain) Ite(c, a, b int) (int, api.Errno) {
	if p.none(c, a, b) {
		return 0, api.ErrTerm
	}
	if p.Width(c) != 1 {
		return 0, api.ErrWidth
	}
	if p.Width(a) != p.Width(b) {
		return 0, api.ErrWidth
	}
	return p.add(api.Node{Op: api.TermIte, Width: p.Width(b), A: c, B: a, C: b})
}

// Extract counts the bits from lo on, as far as there are any.
func (p *plain) Extract(a, lo, w int) (int, api.Errno) {
	if p.none(a) {
		return 0, api.ErrTerm
	}
	bits := 0
	for i := range p.Width(a) {
		if i >= lo {
			bits++
		}
	}
	if w < 1 || lo < 0 || bits < w {
		return 0, api.ErrWidth
	}
	return p.add(api.Node{Op: api.TermExt, Width: w, A: a, B: lo})
}

func (p *plain) Concat(a, b int) (int, api.Errno) {
	if p.none(a, b) {
		return 0, api.ErrTerm
	}
	w := p.Width(a) + p.Width(b)
	if w > 64 {
		return 0, api.ErrWidth
	}
	return p.add(api.Node{Op: api.TermCat, Width: w, A: a, B: b})
}

func (p *plain) Extend(a, w int, signed bool) (int, api.Errno) {
	if p.none(a) {
		return 0, api.ErrTerm
	}
	if w < p.Width(a) || w > 64 {
		return 0, api.ErrWidth
	}
	if w == p.Width(a) {
		return a, api.OK
	}
	if signed {
		return p.add(api.Node{Op: api.TermSext, Width: w, A: a})
	}
	return p.add(api.Node{Op: api.TermZext, Width: w, A: a})
}

// alike asks that both tell the same of c, and are as long behind it.
func alike(t *testing.T, c call, d *Dag, p *plain) api.Errno {
	t.Helper()
	id, e := c.on(d)
	want, f := c.on(p)
	if id != want || e != f {
		t.Fatalf("%v = %d, %d, want %d, %d (of %d terms)", c, id, e, want, f, p.Len())
	}
	if d.Len() != p.Len() {
		t.Fatalf("%v: then there are %d terms, want %d", c, d.Len(), p.Len())
	}
	return e
}

// sameTerms asks that both have the same terms, and no others beside them.
func sameTerms(t *testing.T, d *Dag, p *plain) {
	t.Helper()
	for id := -2; id < p.Len()+2; id++ {
		n, ok := d.Node(id)
		m, is := p.Node(id)
		if n != m || ok != is {
			t.Fatalf("Node(%d) = %+v, %v, want %+v, %v", id, n, ok, m, is)
		}
		if w := d.Width(id); w != p.Width(id) {
			t.Fatalf("Width(%d) = %d, want %d", id, w, p.Width(id))
		}
	}
}

// random is a call that mostly goes well: with few numbers, so that many
// terms are asked for again.
func random(r *rand.Rand, terms int) call {
	id := func() int { return r.Intn(terms+3) - 1 }
	width := func() int {
		if r.Intn(8) == 0 {
			return r.Intn(70) - 3
		}
		return []int{1, 1, 2, 8, 32, 63, 64}[r.Intn(7)]
	}
	switch r.Intn(8) {
	case 0:
		return constOf(width(), r.Uint64()>>r.Intn(64))
	case 1:
		return varOf(width(), []int{0, 1, 2, 3, 254, 255, 256, -1}[r.Intn(8)])
	case 2:
		return unary(14+r.Intn(4), id())
	case 3:
		return binary(r.Intn(16), id(), id())
	case 4:
		return ite(id(), id(), id())
	case 5:
		return extract(id(), r.Intn(12)-2, r.Intn(12)-2)
	case 6:
		return concat(id(), id())
	}
	return extend(id(), width(), r.Intn(2) == 0)
}

// Promises 15.1 to 15.3, all together.

func TestAgainstAList(t *testing.T) {
	met := map[string]int{}
	for seed := range 400 {
		r := rand.New(rand.NewSource(int64(seed)))
		most := r.Intn(60)
		d, p := New(most), &plain{most: most}
		for range 300 {
			c := random(r, p.Len())
			e := alike(t, c, d, p)
			met[fmt.Sprint(c.name, " ", e)]++
		}
		sameTerms(t, d, p)
	}
	// Without these the samples would say little.
	for _, name := range []string{"Const", "Var", "Unary", "Binary", "Ite", "Extract", "Concat", "Extend"} {
		for _, e := range []api.Errno{api.OK, api.ErrLimit} {
			if met[fmt.Sprint(name, " ", e)] < 20 {
				t.Errorf("%s: %d was told %d times alone", name, e, met[fmt.Sprint(name, " ", e)])
			}
		}
	}
}

func TestAgainstALongList(t *testing.T) {
	r := rand.New(rand.NewSource(7))
	d, p := New(api.MaxTerms), &plain{most: api.MaxTerms}
	for range 8000 {
		alike(t, random(r, p.Len()), d, p)
	}
	sameTerms(t, d, p)
}

// All rows of three calls out of these: whatever comes first, numbers and
// errors are those of the list.
func TestAllShortRows(t *testing.T) {
	calls := []call{
		constOf(1, 1), constOf(1, 3), constOf(2, 1), constOf(0, 1), varOf(1, 0), varOf(2, 0), varOf(1, 1), varOf(1, 256),
		unary(api.OpNot, 0), unary(api.OpNeg, 0), unary(api.OpAdd, 0), binary(api.OpAdd, 0, 0), binary(api.OpEq, 0, 1),
		binary(api.OpEq, 1, 0), ite(0, 0, 0), ite(0, 1, 0), ite(0, 0, 1), extract(0, 0, 1), extract(0, 1, 1),
		concat(0, 0), concat(0, 1), extend(0, 2, true), extend(0, 2, false), extend(0, 1, true),
	}
	for most := range 4 {
		for _, a := range calls {
			for _, b := range calls {
				for _, c := range calls {
					d, p := New(most), &plain{most: most}
					alike(t, a, d, p)
					alike(t, b, d, p)
					alike(t, c, d, p)
					sameTerms(t, d, p)
				}
			}
		}
	}
}

// The same terms asked for in another order have other numbers, and each is
// made once nevertheless.
func TestAnyOrder(t *testing.T) {
	var calls []call
	for w := 1; w <= api.MaxWidth; w++ {
		for x := range 16 {
			calls = append(calls, constOf(w, uint64(x)))
		}
		calls = append(calls, varOf(w, w), varOf(w, 255-w))
	}
	for seed := range 5 {
		r := rand.New(rand.NewSource(int64(seed)))
		d, p := New(api.MaxTerms), &plain{most: api.MaxTerms}
		for range 3 {
			r.Shuffle(len(calls), func(i, j int) { calls[i], calls[j] = calls[j], calls[i] })
			for _, c := range calls {
				if e := alike(t, c, d, p); e != api.OK {
					t.Fatalf("%v tells %d", c, e)
				}
			}
		}
		sameTerms(t, d, p)
	}
}
