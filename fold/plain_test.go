package fold

import (
	"fmt"
	"math/rand"
	"slices"
	"testing"

	"breakwater/api"
	"breakwater/sem"
	"breakwater/term"
)

// call is one of the six calls, with what it is handed.
type call struct {
	name    string
	x, y, z int
	signed  bool
}

func unary(op, a int) call              { return call{name: "Unary", x: op, y: a} }
func binary(op, a, b int) call          { return call{name: "Binary", x: op, y: a, z: b} }
func ite(c, a, b int) call              { return call{name: "Ite", x: c, y: a, z: b} }
func extract(a, lo, w int) call         { return call{name: "Extract", x: a, y: lo, z: w} }
func concat(a, b int) call              { return call{name: "Concat", x: a, y: b} }
func extend(a, w int, signed bool) call { return call{name: "Extend", x: a, y: w, signed: signed} }

func (c call) String() string {
	return fmt.Sprintf("%s{%d %d %d %v}", c.name, c.x, c.y, c.z, c.signed)
}

// on asks this package.
func (c call) on(d *term.Dag) (int, api.Errno) {
	switch c.name {
	case "Unary":
		return Unary(d, c.x, c.y)
	case "Binary":
		return Binary(d, c.x, c.y, c.z)
	case "Ite":
		return Ite(d, c.x, c.y, c.z)
	case "Extract":
		return Extract(d, c.x, c.y, c.z)
	case "Concat":
		return Concat(d, c.x, c.y)
	case "Extend":
		return Extend(d, c.x, c.y, c.signed)
	}
	panic("no such call: " + c.name)
}

// plainly asks chapter 15's call of the same name.
func (c call) plainly(d *term.Dag) (int, api.Errno) {
	switch c.name {
	case "Unary":
		return d.Unary(c.x, c.y)
	case "Binary":
		return d.Binary(c.x, c.y, c.z)
	case "Ite":
		return d.Ite(c.x, c.y, c.z)
	case "Extract":
		return d.Extract(c.x, c.y, c.z)
	case "Concat":
		return d.Concat(c.x, c.y)
	case "Extend":
		return d.Extend(c.x, c.y, c.signed)
	}
	panic("no such call: " + c.name)
}

// handed are the terms that c is handed.
func (c call) handed() []int {
	switch c.name {
	case "Unary":
		return []int{c.y}
	case "Binary":
		return []int{c.y, c.z}
	case "Ite":
		return []int{c.x, c.y, c.z}
	case "Concat":
		return []int{c.x, c.y}
	}
	return []int{c.x}
}

// counting are the terms of which c's answer is a constant where they are: all
// that it is handed; of an Ite whose choice is known not the other one.
func (c call) counting(d *term.Dag) []int {
	all := c.handed()
	if n, _ := d.Node(c.x); c.name == "Ite" && n.Op == api.TermConst {
		return []int{c.x, all[2-n.Val]}
	}
	return all
}

// nodes are all terms of d.
func nodes(d *term.Dag) []api.Node {
	var all []api.Node
	for id := range d.Len() {
		n, _ := d.Node(id)
		all = append(all, n)
	}
	return all
}

// again makes a dag of these terms, with the same numbers, and room for most.
func again(t *testing.T, all []api.Node, most int) *term.Dag {
	t.Helper()
	d := term.New(most)
	for id, n := range all {
		if made, e := remake(d, n); made != id || e != api.OK {
			t.Fatalf("%+v is made as %d, %d, want %d", n, made, e, id)
		}
	}
	return d
}

func remake(d *term.Dag, n api.Node) (int, api.Errno) {
	switch n.Op {
	case api.TermConst:
		return d.Const(n.Width, n.Val)
	case api.TermVar:
		return d.Var(n.Width, n.A)
	case api.OpNot, api.OpNeg:
		return d.Unary(n.Op, n.A)
	case api.TermIte:
		return d.Ite(n.A, n.B, n.C)
	case api.TermExt:
		return d.Extract(n.A, n.B, n.Width)
	case api.TermCat:
		return d.Concat(n.A, n.B)
	case api.TermZext, api.TermSext:
		return d.Extend(n.A, n.Width, n.Op == api.TermSext)
	}
	return d.Binary(n.Op, n.A, n.B)
}

func isConst(d *term.Dag, ids ...int) bool {
	for _, id := range ids {
		if n, _ := d.Node(id); n.Op != api.TermConst {
			return false
		}
	}
	return true
}

// right asks c of d, which has room left, and holds what it tells against
// chapter 15's own term. It tells the number; beside an error -1.
func right(t *testing.T, d *term.Dag, c call, envs [][]uint64) int {
	t.Helper()
	was := nodes(d)
	id, e := c.on(d)
	now := nodes(d)
	if len(now) < len(was) || !slices.Equal(now[:len(was)], was) {
		t.Fatalf("%v changed the terms that were there", c)
	}
	own, f := c.plainly(d)
	if slices.ContainsFunc(c.handed(), func(a int) bool { return a < 0 || a >= len(was) }) {
		// What came to be since may have the number of what was none.
		own, f = c.plainly(again(t, was, len(was)+1))
	}
	if e != f {
		t.Fatalf("%v tells the error %d, want %d", c, e, f)
	}
	if e != api.OK {
		if id != 0 || len(now) != len(was) {
			t.Fatalf("%v = %d, beside the error %d, with %d terms more", c, id, e, len(now)-len(was))
		}
		return -1
	}
	if more, g := c.on(d); more != id || g != api.OK {
		t.Fatalf("%v = %d, then %d, %d", c, id, more, g)
	}
	same(t, d, c, id, own, envs)
	return id
}

// same asks that id may stand for own, which is chapter 15's term of c.
func same(t *testing.T, d *term.Dag, c call, id, own int, envs [][]uint64) {
	t.Helper()
	n, there := d.Node(id)
	if m, _ := d.Node(own); !there || n.Width != m.Width {
		t.Fatalf("%v is %+v, in the place of %+v", c, n, m)
	}
	if isConst(d, c.counting(d)...) && n.Op != api.TermConst {
		t.Fatalf("%v of constants is %+v", c, n)
	}
	for _, env := range envs {
		x, _ := sem.Value(d, id, env)
		y, _ := sem.Value(d, own, env)
		if x != y {
			t.Fatalf("%v is %+v: %#x, want %#x, where variables are %v", c, n, x, y, env)
		}
	}
	var may []int
	for _, a := range c.handed() {
		may = append(may, sem.Vars(d, a)...)
	}
	for _, i := range sem.Vars(d, id) {
		if !slices.Contains(may, i) {
			t.Fatalf("%v hangs on the variable %d, want %v at most", c, i, may)
		}
	}
}

// randomEnvs are words for the variables 0 to 7, of all sizes.
func randomEnvs(r *rand.Rand, many int) [][]uint64 {
	var envs [][]uint64
	for range many {
		env := make([]uint64, 8)
		for i := range env {
			env[i] = []uint64{0, 1, ^uint64(0), r.Uint64(), r.Uint64() >> r.Intn(64), ^uint64(0) << r.Intn(64)}[r.Intn(6)]
		}
		envs = append(envs, env)
	}
	return envs
}

// begin makes variables, and the words that have rules of their own.
func begin(d *term.Dag) {
	for i, w := range []int{1, 1, 2, 8, 8, 63, 64, 64} {
		d.Var(w, i)
	}
	for _, w := range widths {
		for _, x := range []uint64{0, 1, 5, mask(w), mask(w)>>1 + 1} {
			d.Const(w, x)
		}
	}
}

// random is a call that mostly goes well where it says so, of d's terms.
func random(r *rand.Rand, d *term.Dag) call {
	id := func() int {
		if r.Intn(60) == 0 {
			return []int{-1, d.Len(), d.Len() + 9}[r.Intn(3)]
		}
		return r.Intn(d.Len())
	}
	// twin has the width of a, if there is one by chance.
	twin := func(a int) int {
		b := id()
		for range 20 {
			if d.Width(a) == d.Width(b) {
				break
			}
			b = id()
		}
		return b
	}
	a := id()
	switch r.Intn(16) {
	case 0, 1:
		return unary(api.OpNot+r.Intn(2), a)
	case 2, 3:
		c := id()
		for range 20 {
			if d.Width(c) == 1 {
				break
			}
			c = id()
		}
		return ite(c, a, twin(a))
	case 4:
		return extract(a, r.Intn(70)-2, r.Intn(70)-2)
	case 5:
		lo := r.Intn(d.Width(a) + 1)
		return extract(a, lo, 1+r.Intn(d.Width(a)-lo+1))
	case 6:
		return concat(a, id())
	case 7:
		return extend(a, r.Intn(70)-2, r.Intn(2) == 0)
	case 8:
		return binary(r.Intn(18)-1, a, id())
	case 9:
		return unary(13+r.Intn(5), a)
	}
	return binary(api.OpAdd+r.Intn(14), a, twin(a))
}

// Promises 17.1 and 17.2, all together.

// Terms made by random calls, of which each may be handed to the next ones.
func TestAgainstChapter15(t *testing.T) {
	met := map[string]int{}
	for seed := range 200 {
		r := rand.New(rand.NewSource(int64(seed)))
		d := term.New(api.MaxTerms)
		begin(d)
		envs := randomEnvs(r, 12)
		for range 80 {
			was := d.Len()
			c := random(r, d)
			switch id := right(t, d, c, envs); {
			case id < 0:
				met[c.name+" wrong"]++
			case id < was:
				met[c.name+" there"]++
			case isConst(d, id):
				met[c.name+" constant"]++
			default:
				met[c.name+" made"]++
			}
		}
	}
	// Without these the samples would say little.
	for _, name := range []string{"Unary", "Binary", "Ite", "Extract", "Concat", "Extend"} {
		for _, how := range []string{" wrong", " there", " constant", " made"} {
			few := 50
			switch {
			case name+how == "Ite constant":
				few = 0 // what it chooses is there
			case how == " there":
				few = 5
			}
			if met[name+how] < few {
				t.Errorf("%s%s: %d alone", name, how, met[name+how])
			}
		}
	}
}

// The same calls on two dags: on one of them all are made simpler, also of
// terms that were made simpler ahead.
func TestWholeRowsAgainstChapter15(t *testing.T) {
	for seed := range 60 {
		r := rand.New(rand.NewSource(int64(seed)))
		d, plain := term.New(api.MaxTerms), term.New(api.MaxTerms)
		begin(d)
		begin(plain)
		// As plain's terms are numbered: what stands for each in d.
		var twins []int
		for id := range d.Len() {
			twins = append(twins, id)
		}
		for range 150 {
			c := random(r, plain)
			own, e := c.plainly(plain)
			id, f := translated(c, twins).on(d)
			if e != f {
				t.Fatalf("%v tells %d, want %d", c, f, e)
			}
			if e == api.OK && own == len(twins) {
				twins = append(twins, id)
			}
		}
		for _, env := range randomEnvs(r, 10) {
			for own, id := range twins {
				x, _ := sem.Value(d, id, env)
				y, _ := sem.Value(plain, own, env)
				if x != y || d.Width(id) != plain.Width(own) {
					t.Fatalf("seed %d: %#x of %d bits, want %#x of %d", seed, x, d.Width(id), y, plain.Width(own))
				}
			}
		}
		if d.Len() >= plain.Len() {
			t.Errorf("seed %d: %d terms in the place of %d", seed, d.Len(), plain.Len())
		}
	}
}

// translated is c, of the terms that twins says; what is none stays none.
func translated(c call, twins []int) call {
	to := func(id int) int {
		if id < 0 || id >= len(twins) {
			return -1
		}
		return twins[id]
	}
	switch c.name {
	case "Unary":
		c.y = to(c.y)
	case "Binary":
		c.y, c.z = to(c.y), to(c.z)
	case "Ite":
		c.x, c.y, c.z = to(c.x), to(c.y), to(c.z)
	case "Concat":
		c.x, c.y = to(c.x), to(c.y)
	default:
		c.x = to(c.x)
	}
	return c
}

// All calls of some small terms, and all of what these made: wherever the
// variables have any words.
func TestAllSmallTerms(t *testing.T) {
	d := term.New(api.MaxTerms)
	for i, w := range []int{1, 1, 2} {
		d.Var(w, i)
	}
	for w := 1; w <= 2; w++ {
		for x := range uint64(1) << w {
			d.Const(w, x)
		}
	}
	var envs [][]uint64
	for x := range uint64(16) {
		envs = append(envs, []uint64{x & 1, x >> 1 & 1, x >> 2})
	}
	base := d.Len()
	small := nodes(d)
	for _, first := range allOf(base, 0) {
		d := again(t, small, api.MaxTerms)
		id := right(t, d, first, envs)
		if id < base {
			continue
		}
		firsts := nodes(d)
		for _, c := range allOf(base, id) {
			// A new dag now and then, so that the row stays short.
			if d.Len() > 50 {
				d = again(t, firsts, api.MaxTerms)
			}
			right(t, d, c, envs)
		}
	}
}

// allOf are all calls of terms below base; if there is one, of which id, which
// is made behind them, is handed in.
func allOf(base, id int) []call {
	var ids []int
	for i := range base {
		ids = append(ids, i)
	}
	if id != 0 {
		ids = append(ids, id)
	}
	var all []call
	add := func(c call) {
		if id == 0 || slices.Contains(c.handed(), id) {
			all = append(all, c)
		}
	}
	for _, a := range ids {
		add(unary(api.OpNot, a))
		add(unary(api.OpNeg, a))
		for w := 1; w <= 3; w++ {
			add(extract(a, 0, w))
			add(extract(a, 1, w))
			add(extend(a, w, false))
			add(extend(a, w, true))
		}
		for _, b := range ids {
			for op := api.OpAdd; op <= api.OpSlt; op++ {
				add(binary(op, a, b))
			}
			add(concat(a, b))
			add(ite(0, a, b))
			if id != 0 {
				add(ite(id, a, b))
			}
		}
	}
	return all
}

// The same calls from a new dag on tell the same numbers, and make the same.
func TestTheSameAgain(t *testing.T) {
	for seed := range 40 {
		var firsts []int
		var were []api.Node
		for round := range 3 {
			r := rand.New(rand.NewSource(int64(seed)))
			d := term.New(100)
			begin(d)
			var ids []int
			for range 200 {
				id, e := random(r, d).on(d)
				ids = append(ids, id, int(e))
			}
			if round == 0 {
				firsts, were = ids, nodes(d)
			}
			if !slices.Equal(ids, firsts) || !slices.Equal(nodes(d), were) {
				t.Fatalf("seed %d: the same calls tell something else", seed)
			}
		}
	}
}

// Where there is no room, the answer is ErrLimit, or a term that is there and
// would be told with room as well; no error comes ahead of its turn.
func TestNoRoomAgainstRoom(t *testing.T) {
	met := map[api.Errno]int{}
	for seed := range 150 {
		r := rand.New(rand.NewSource(int64(seed)))
		d := term.New(api.MaxTerms)
		begin(d)
		for range 20 {
			random(r, d).on(d)
		}
		was := nodes(d)
		for range 40 {
			c := random(r, d)
			full, room := again(t, was, len(was)), again(t, was, len(was)+1)
			id, e := c.on(full)
			want, f := c.on(room)
			if f == api.OK && room.Len() > len(was) {
				want, f = 0, api.ErrLimit
			}
			if id != want || e != f {
				t.Fatalf("%v = %d, %d without room, want %d, %d", c, id, e, want, f)
			}
			if !slices.Equal(nodes(full), was) {
				t.Fatalf("%v changed the terms, without room", c)
			}
			met[e]++
		}
	}
	for _, e := range []api.Errno{api.OK, api.ErrOp, api.ErrTerm, api.ErrWidth, api.ErrLimit} {
		if met[e] < 50 {
			t.Errorf("%d was told %d times alone", e, met[e])
		}
	}
}
