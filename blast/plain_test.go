package blast

import (
	"maps"
	"math/big"
	"math/rand"
	"slices"
	"testing"

	"breakwater/api"
	"breakwater/gate"
	"breakwater/lit"
	"breakwater/sem"
	"breakwater/term"
	"breakwater/unit"
)

// What terms mean, reckoned from the first one on in numbers of no bound.

func power(n int) *big.Int { return new(big.Int).Lsh(big.NewInt(1), uint(n)) }

func number(x uint64) *big.Int { return new(big.Int).SetUint64(x) }

// cut is x as a word of w bits, also if it is below 0.
func cut(x *big.Int, w int) *big.Int { return new(big.Int).Mod(x, power(w)) }

// signed is x, a word of w bits, the highest one counting below 0.
func signed(x *big.Int, w int) *big.Int {
	if x.Bit(w-1) == 1 {
		return new(big.Int).Sub(x, power(w))
	}
	return x
}

func truth(holds bool) *big.Int {
	if holds {
		return big.NewInt(1)
	}
	return new(big.Int)
}

// plainBinary is what op makes of a and b, words of w bits, ahead of the cut.
func plainBinary(op, w int, a, b *big.Int) *big.Int {
	x := new(big.Int)
	// No word is moved further than this by more bits.
	steps := w
	if b.Cmp(big.NewInt(int64(w))) < 0 {
		steps = int(b.Int64())
	}
	switch op {
	case api.OpAdd:
		return x.Add(a, b)
	case api.OpSub:
		return x.Sub(a, b)
	case api.OpMul:
		return x.Mul(a, b)
	case api.OpUdiv:
		if b.Sign() == 0 {
			return x.Sub(power(w), big.NewInt(1))
		}
		return x.Quo(a, b)
	case api.OpUrem:
		if b.Sign() == 0 {
			return a
		}
		return x.Rem(a, b)
	case api.OpAnd:
		return x.And(a, b)
	case api.OpOr:
		return x.Or(a, b)
	case api.OpXor:
		return x.Xor(a, b)
	case api.OpShl:
		return x.Mul(a, power(steps))
	case api.OpShr:
		return x.Quo(a, power(steps))
	case api.OpSar:
		// Div goes down, also below 0, as bits that come from above do.
		return x.Div(signed(a, w), power(steps))
	case api.OpEq:
		return truth(a.Cmp(b) == 0)
	case api.OpUlt:
		return truth(a.Cmp(b) < 0)
	case api.OpSlt:
		return truth(signed(a, w).Cmp(signed(b, w)) < 0)
	}
	panic("no such operator")
}

// plainWord is the word of n, where words are those of the terms ahead of it.
func plainWord(d *term.Dag, n api.Node, words []*big.Int, env []uint64) *big.Int {
	switch n.Op {
	case api.TermConst:
		return number(n.Val)
	case api.TermVar:
		if n.A >= len(env) {
			return new(big.Int)
		}
		return cut(number(env[n.A]), n.Width)
	case api.TermIte:
		if words[n.A].Sign() == 0 {
			return words[n.C]
		}
		return words[n.B]
	case api.TermExt:
		return cut(new(big.Int).Quo(words[n.A], power(n.B)), n.Width)
	case api.TermCat:
		return new(big.Int).Add(words[n.B], new(big.Int).Mul(words[n.A], power(d.Width(n.B))))
	case api.TermZext:
		return words[n.A]
	case api.TermSext:
		return cut(signed(words[n.A], d.Width(n.A)), n.Width)
	case api.OpNot:
		return new(big.Int).Xor(words[n.A], new(big.Int).Sub(power(n.Width), big.NewInt(1)))
	case api.OpNeg:
		return cut(new(big.Int).Neg(words[n.A]), n.Width)
	}
	return cut(plainBinary(n.Op, d.Width(n.A), words[n.A], words[n.B]), n.Width)
}

// plainWords are the words of all terms of d.
func plainWords(d *term.Dag, env []uint64) []*big.Int {
	var words []*big.Int
	for _, n := range nodes(d) {
		words = append(words, plainWord(d, n, words, env))
	}
	return words
}

// nodes are all terms of d.
func nodes(d *term.Dag) []api.Node {
	l := make([]api.Node, d.Len())
	for id := range l {
		l[id], _ = d.Node(id)
	}
	return l
}

// answer is a row that Bits told, and what it was then.
type answer struct {
	id       int
	row, was []int
}

// sheet is terms, the gates that are made of them, and all that was told.
type sheet struct {
	t     *testing.T
	d     *term.Dag
	g     *gate.Gates
	b     *Blaster
	told  []answer
	first map[int][]int
	// vars are the variables that the terms that were asked for hang on.
	vars map[int]bool
}

func newSheet(t *testing.T) *sheet { return sheetOf(t, term.New(api.MaxTerms), gate.New()) }

func sheetOf(t *testing.T, d *term.Dag, g *gate.Gates) *sheet {
	return &sheet{t: t, d: d, g: g, b: New(d, g), first: map[int][]int{}, vars: map[int]bool{}}
}

// is asks that a term was made.
func (s *sheet) is(id int, e api.Errno) int {
	s.t.Helper()
	if e != api.OK {
		s.t.Fatalf("a term was not made: %d", e)
	}
	return id
}

func (s *sheet) word(w int, x uint64) int  { s.t.Helper(); return s.is(s.d.Const(w, x)) }
func (s *sheet) variable(w, i int) int     { s.t.Helper(); return s.is(s.d.Var(w, i)) }
func (s *sheet) unary(op, a int) int       { s.t.Helper(); return s.is(s.d.Unary(op, a)) }
func (s *sheet) binary(op, a, b int) int   { s.t.Helper(); return s.is(s.d.Binary(op, a, b)) }
func (s *sheet) ite(c, a, b int) int       { s.t.Helper(); return s.is(s.d.Ite(c, a, b)) }
func (s *sheet) extract(a, lo, w int) int  { s.t.Helper(); return s.is(s.d.Extract(a, lo, w)) }
func (s *sheet) concat(a, b int) int       { s.t.Helper(); return s.is(s.d.Concat(a, b)) }
func (s *sheet) widen(a, w int) int        { s.t.Helper(); return s.is(s.d.Extend(a, w, false)) }
func (s *sheet) widenSigned(a, w int) int  { s.t.Helper(); return s.is(s.d.Extend(a, w, true)) }
func (s *sheet) row(id int) []int          { s.t.Helper(); s.ask(id); return s.first[id] }
func (s *sheet) node(id int) (n api.Node)  { n, _ = s.d.Node(id); return n }
func (s *sheet) size() (vars, clauses int) { return s.g.Vars(), len(s.g.Clauses()) }

// ask asks for the rows of terms: each is as long as the term is wide, of
// literals of the gates, and the one that was told ahead, if it was.
func (s *sheet) ask(ids ...int) {
	s.t.Helper()
	for _, id := range ids {
		row, e := s.b.Bits(id)
		if e != api.OK || len(row) != s.d.Width(id) {
			s.t.Fatalf("Bits(%d %+v) = %v, %d", id, s.node(id), row, e)
		}
		if slices.Min(row) < 0 || slices.Max(row) >= 2*s.g.Vars() {
			s.t.Fatalf("Bits(%d %+v) = %v, of %d variables", id, s.node(id), row, s.g.Vars())
		}
		was, again := s.first[id]
		if again && !slices.Equal(row, was) {
			s.t.Fatalf("Bits(%d %+v) = %v, and ahead %v", id, s.node(id), row, was)
		}
		s.first[id] = slices.Clone(row)
		s.told = append(s.told, answer{id, row, slices.Clone(row)})
		if !again {
			for _, i := range sem.Vars(s.d, id) {
				s.vars[i] = true
			}
		}
	}
}

// askAll asks for all terms, from the first one on.
func (s *sheet) askAll() {
	s.t.Helper()
	for id := range s.d.Len() {
		s.ask(id)
	}
}

// widthOf is the width of variable i, which some term is.
func (s *sheet) widthOf(i int) int {
	for _, n := range nodes(s.d) {
		if n.Op == api.TermVar && n.A == i {
			return n.Width
		}
	}
	return 0
}

// inputs asks for the rows of variables, which just those have that terms
// that were asked for hang on: as wide, of variables of gates of their own,
// told again alike.
func (s *sheet) inputs() map[int][]int {
	s.t.Helper()
	want := slices.Sorted(maps.Keys(s.vars))
	if got := s.b.Inputs(); !slices.Equal(got, want) {
		s.t.Fatalf("Inputs() = %v, want %v", got, want)
	}
	rows, own := map[int][]int{}, map[int]bool{lit.Var(s.g.True()): true}
	for i := -1; i <= api.MaxInputs; i++ {
		row := s.b.Input(i)
		if !s.vars[i] {
			if len(row) != 0 {
				s.t.Fatalf("Input(%d) = %v, and no term hangs on it", i, row)
			}
			continue
		}
		if len(row) != s.widthOf(i) || !slices.Equal(row, s.b.Input(i)) {
			s.t.Fatalf("Input(%d) = %v, then %v, of %d bits", i, row, s.b.Input(i), s.widthOf(i))
		}
		for _, x := range row {
			if v := lit.Var(x); x < 0 || v >= s.g.Vars() || own[v] {
				s.t.Fatalf("Input(%d) = %v, of which %d is no Input of its own", i, row, x)
			}
			own[lit.Var(x)] = true
		}
		rows[i] = row
	}
	return rows
}

// holds asks that what is meant (19.2) holds of all rows that were told, where
// the variables have the words of env: Close is true, and has of each literal
// it, or its Not, as the word says that chapter 16 tells.
func (s *sheet) holds(env ...uint64) {
	s.t.Helper()
	var set []int
	for i, row := range s.inputs() {
		for place, x := range row {
			set = append(set, x^int(1-cut(number(at(env, i)), len(row)).Bit(place)))
		}
	}
	known, ok := unit.Close(s.g.Clauses(), set)
	if !ok {
		s.t.Fatalf("Close is false where the words are %v", env)
	}
	held := make([]bool, 2*s.g.Vars())
	for _, x := range known {
		held[x] = true
	}
	words := plainWords(s.d, env)
	for _, a := range s.told {
		s.asWord(a, words[a.id], held, env)
	}
}

// asWord asks that a is the word x, as chapter 16 says of the term, and that
// nobody wrote to it.
func (s *sheet) asWord(a answer, x *big.Int, held []bool, env []uint64) {
	s.t.Helper()
	if !slices.Equal(a.row, a.was) {
		s.t.Fatalf("the row of %d was told as %v, and is %v", a.id, a.was, a.row)
	}
	told, e := sem.Value(s.d, a.id, env)
	if e != api.OK || x.Cmp(number(told)) != 0 {
		s.t.Fatalf("the term %d %+v is reckoned as %v, and in chapter 16 %d, %d", a.id, s.node(a.id), x, told, e)
	}
	for i, l := range a.row {
		is := l ^ int(1-x.Bit(i))
		if !held[is] || held[lit.Not(is)] {
			s.t.Fatalf("the term %d %+v is to be %#x where the words are %#x: of bit %d Close has the literal %v, its Not %v",
				a.id, s.node(a.id), x, env, i, held[l], held[lit.Not(l)])
		}
	}
}

// at is the word of env at place i; 0, if it has none.
func at(env []uint64, i int) uint64 {
	if i >= len(env) {
		return 0
	}
	return env[i]
}

// holdsAll is holds with all words of the variables that have rows.
func (s *sheet) holdsAll() {
	s.t.Helper()
	vars := slices.Sorted(maps.Keys(s.vars))
	bits := 0
	for _, i := range vars {
		bits += s.widthOf(i)
	}
	for x := range uint64(1) << bits {
		env := make([]uint64, api.MaxInputs)
		for _, i := range vars {
			env[i] = x & (1<<s.widthOf(i) - 1)
			x >>= s.widthOf(i)
		}
		s.holds(env...)
	}
}

// someWord is a word by chance: few of those that are evenly drawn are less
// than a width, or next to a power of two.
func someWord(r *rand.Rand) uint64 {
	switch r.Intn(6) {
	case 0:
		return uint64(r.Intn(66))
	case 1:
		return 1<<r.Intn(64) + uint64(r.Intn(3)) - 1
	case 2:
		return -uint64(r.Intn(3))
	}
	return r.Uint64() >> r.Intn(64)
}

// someEnv is words by chance, as many as some terms need, or fewer, or more.
func someEnv(r *rand.Rand) []uint64 {
	env := make([]uint64, []int{0, 1, 3, 5, 101, 256, 257, 300}[r.Intn(8)])
	for i := range env {
		env[i] = someWord(r)
	}
	return env
}

// growth says of what terms are made by chance.
type growth struct {
	widths, variables []int
	// slow is how many products, quotients and rests there may be, as these
	// take many gates.
	slow int
}

// grow makes terms of all kinds out of those that are there, till there are
// so many; what goes wrong makes none, and is of no matter here.
func (w *growth) grow(r *rand.Rand, d *term.Dag, terms int) {
	for tries := 0; d.Len() < terms && tries < 1000*terms; tries++ {
		// Those that came last are deeper, and have their turn more often.
		id := func() int {
			if n := d.Len(); n > 12 && r.Intn(3) > 0 {
				return n - r.Intn(12)
			}
			return r.Intn(d.Len() + 1)
		}
		width := w.widths[r.Intn(len(w.widths))]
		switch r.Intn(14) {
		case 0:
			d.Const(width, someWord(r))
		case 1, 2:
			d.Var(width, w.variables[r.Intn(len(w.variables))])
		case 3:
			d.Unary(api.OpNot+r.Intn(2), id())
		case 4, 5, 6, 7, 8:
			w.binary(r, d, id(), id())
		case 9:
			d.Ite(id(), id(), id())
		case 10, 11:
			d.Extract(id(), r.Intn(width), 1+r.Intn(width))
		case 12:
			d.Concat(id(), id())
		case 13:
			d.Extend(id(), 1+r.Intn(64), r.Intn(2) == 0)
		}
	}
}

func (w *growth) binary(r *rand.Rand, d *term.Dag, a, b int) {
	op := api.OpAdd + r.Intn(14)
	if op >= api.OpMul && op <= api.OpUrem {
		if w.slow == 0 {
			return
		}
		if d.Width(a) > 8 && d.Width(a) == d.Width(b) {
			w.slow--
		}
	}
	d.Binary(op, a, b)
}

// The promise as a whole: terms by chance, asked for in many orders.

// operators are all that terms may have.
func operators() []int {
	var l []int
	for op := api.OpAdd; op <= api.OpNeg; op++ {
		l = append(l, op)
	}
	for op := api.TermConst; op <= api.TermSext; op++ {
		l = append(l, op)
	}
	return l
}

// Of few bits in all, with all words of the variables.
func TestRandomTermsOfAllWords(t *testing.T) {
	met := map[int]int{}
	for seed := range 250 {
		r := rand.New(rand.NewSource(int64(seed)))
		s := newSheet(t)
		w := &growth{widths: []int{1, 1, 2, 3}, variables: []int{0, 7, 255}, slow: 2}
		w.grow(r, s.d, 1+r.Intn(50))
		was := nodes(s.d)
		s.ask(r.Perm(s.d.Len())...)
		s.holdsAll()
		if !slices.Equal(nodes(s.d), was) {
			t.Fatalf("Bits left the terms %v, of %v", nodes(s.d), was)
		}
		for _, n := range was {
			met[n.Op]++
		}
	}
	// Without these the samples would say little.
	for _, op := range operators() {
		if met[op] < 50 {
			t.Errorf("of operator %d there were %d terms alone", op, met[op])
		}
	}
}

// Of all widths, with some words.
func TestRandomTermsOfSomeWords(t *testing.T) {
	for part := range 8 {
		t.Run("", func(t *testing.T) {
			t.Parallel()
			for seed := range 6 {
				r := rand.New(rand.NewSource(int64(1000*part + seed)))
				s := newSheet(t)
				w := &growth{[]int{1, 1, 1, 2, 8, 8, 31, 32, 33, 63, 64, 64}, []int{0, 1, 2, 3, 4, 100, 254, 255}, 2}
				w.grow(r, s.d, 30+r.Intn(90))
				s.ask(r.Perm(s.d.Len())...)
				for range 8 {
					s.holds(someEnv(r)...)
				}
			}
		})
	}
}

// Some terms alone are asked for, others are made between the calls, and what
// was told is as it says behind each.
func TestRandomTermsCallByCall(t *testing.T) {
	for seed := range 60 {
		r := rand.New(rand.NewSource(int64(5000 + seed)))
		s := newSheet(t)
		w := &growth{[]int{1, 1, 2, 5, 8, 64}, []int{0, 1, 2, 9, 255}, 1}
		for size := 2; size < 60; size += 1 + r.Intn(12) {
			w.grow(r, s.d, size)
			for range r.Intn(4) {
				s.ask(r.Intn(s.d.Len()))
			}
			s.holds(someEnv(r)...)
		}
	}
}

// One long row of terms, of which some are asked for, and two between which
// others make gates of the same gates.
func TestALongRowOfTerms(t *testing.T) {
	r := rand.New(rand.NewSource(7))
	s := newSheet(t)
	w := &growth{[]int{1, 1, 2, 4, 8}, []int{0, 1, 2, 3, 4, 5, 6, 7, 100, 255}, 10}
	w.grow(r, s.d, 3000)
	if s.d.Len() != 3000 {
		t.Fatalf("there are %d terms alone", s.d.Len())
	}
	for range 60 {
		s.ask(r.Intn(s.d.Len()))
		x := s.g.Input()
		s.g.And(x, s.g.Xor(x, r.Intn(2*s.g.Vars())))
	}
	s.ask(s.d.Len()-1, 0)
	for range 4 {
		s.holds(someEnv(r)...)
	}
}
