package arith

import (
	"fmt"
	"math/big"
	"math/rand"
	"slices"
	"testing"

	"breakwater/api"
	"breakwater/gate"
	"breakwater/unit"
	"breakwater/word"
)

// kind is a call of the package that is handed rows: how it is asked for (c
// just of Ite), whether it tells a row, or a literal, which stands as a row of
// one then, and what that says where the rows are the words a and b, of width w.
type kind struct {
	name string
	rows int
	cond bool
	long bool
	ask  func(g *gate.Gates, c int, a, b []int) []int
	says func(w int, c bool, a, b *big.Int) *big.Int
	op   int // chapter 1's operator of the same words, or 0
}

var (
	add = &kind{"Add", 2, false, true,
		func(g *gate.Gates, _ int, a, b []int) []int { return Add(g, a, b) },
		func(w int, _ bool, a, b *big.Int) *big.Int { return cut(w, new(big.Int).Add(a, b)) }, api.OpAdd}
	sub = &kind{"Sub", 2, false, true,
		func(g *gate.Gates, _ int, a, b []int) []int { return Sub(g, a, b) },
		func(w int, _ bool, a, b *big.Int) *big.Int { return cut(w, new(big.Int).Sub(a, b)) }, api.OpSub}
	neg = &kind{"Neg", 1, false, true,
		func(g *gate.Gates, _ int, a, _ []int) []int { return Neg(g, a) },
		func(w int, _ bool, a, _ *big.Int) *big.Int { return cut(w, new(big.Int).Neg(a)) }, api.OpNeg}
	equal = &kind{"Equal", 2, false, false,
		func(g *gate.Gates, _ int, a, b []int) []int { return []int{Equal(g, a, b)} },
		func(_ int, _ bool, a, b *big.Int) *big.Int { return truth(a.Cmp(b) == 0) }, api.OpEq}
	lesser = &kind{"Less", 2, false, false,
		func(g *gate.Gates, _ int, a, b []int) []int { return []int{Less(g, a, b)} },
		func(_ int, _ bool, a, b *big.Int) *big.Int { return truth(a.Cmp(b) < 0) }, api.OpUlt}
	sless = &kind{"Sless", 2, false, false,
		func(g *gate.Gates, _ int, a, b []int) []int { return []int{Sless(g, a, b)} },
		func(w int, _ bool, a, b *big.Int) *big.Int { return truth(signed(w, a).Cmp(signed(w, b)) < 0) }, api.OpSlt}
	ite = &kind{"Ite", 2, true, true,
		func(g *gate.Gates, c int, a, b []int) []int { return Ite(g, c, a, b) },
		func(_ int, c bool, a, b *big.Int) *big.Int {
			if c {
				return a
			}
			return b
		}, 0}
	kinds = []*kind{add, sub, neg, equal, lesser, sless, ite}
)

// cut is the rest of x, over 2 to the w.
func cut(w int, x *big.Int) *big.Int {
	return new(big.Int).Mod(x, new(big.Int).Lsh(big.NewInt(1), uint(w)))
}

// signed is the number that x's w bits are, the highest one counting below 0.
func signed(w int, x *big.Int) *big.Int {
	if x.Bit(w-1) == 0 {
		return x
	}
	return new(big.Int).Sub(x, new(big.Int).Lsh(big.NewInt(1), uint(w)))
}

func truth(is bool) *big.Int {
	if is {
		return big.NewInt(1)
	}
	return big.NewInt(0)
}

// none tells whether what k told is what it tells of no rows.
func (k *kind) none(told []int) bool {
	if k.long {
		return len(told) == 0
	}
	return slices.Equal(told, []int{-1})
}

// ref is a bit that was told, or its Not.
type ref struct {
	at  int
	not bool
}

// step is a call: of a kind with rows of bits; with no kind, Const of x; and
// with free, a row of Inputs.
type step struct {
	kind *kind
	c    ref
	of   [][]ref
	x    *big.Int
	free bool
	w    int
}

// run is calls on the same gates, one behind the other, and the bits that they
// told, all in one row.
type run struct {
	t      *testing.T
	g      *gate.Gates
	inputs int
	steps  []step
	bits   []int
}

func newRun(t *testing.T) *run { return &run{t: t, g: gate.New()} }

// put lays what a step told behind all that was told.
func (r *run) put(s step, told []int) []ref {
	r.t.Helper()
	if len(told) != s.w {
		r.t.Fatalf("%v told %v, which is not a row of %d", s, told, s.w)
	}
	var refs []ref
	for _, x := range told {
		if x < 0 || x >= 2*r.g.Vars() {
			r.t.Fatalf("%v told %v, of %d variables", s, told, r.g.Vars())
		}
		refs = append(refs, ref{at: len(r.bits)})
		r.bits = append(r.bits, x)
	}
	r.steps = append(r.steps, s)
	return refs
}

// input is a row of w Inputs.
func (r *run) input(w int) []ref {
	r.t.Helper()
	var told []int
	for range w {
		told = append(told, r.g.Input())
	}
	r.inputs += w
	return r.put(step{free: true, w: w}, told)
}

// constant is Const's row of the lowest w bits of x.
func (r *run) constant(w int, x uint64) []ref {
	r.t.Helper()
	return r.put(step{x: new(big.Int).SetUint64(x), w: w}, Const(r.g, w, x))
}

// long is a row of constants, of any width: those of x's bits.
func (r *run) long(w int, x *big.Int) []ref {
	r.t.Helper()
	one := r.constant(1, 1)[0]
	var row []ref
	for i := range w {
		row = append(row, ref{at: one.at, not: x.Bit(i) == 0})
	}
	return row
}

// call asks for k of rows, and, of Ite, c; what is handed in is to stay.
func (r *run) call(k *kind, c ref, rows ...[]ref) []ref {
	r.t.Helper()
	s := step{kind: k, c: c, of: slices.Clone(rows), w: 1}
	if k.long {
		s.w = len(rows[0])
	}
	var cond int
	if k.cond {
		cond = r.all([]ref{c})[0]
	}
	a := behind(r.all(rows[0]))
	b := a
	if k.rows == 2 {
		b = behind(r.all(rows[1]))
	}
	wholeA, wholeB := slices.Clone(a[:cap(a)]), slices.Clone(b[:cap(b)])
	told := k.ask(r.g, cond, a, b)
	if !slices.Equal(a[:cap(a)], wholeA) || !slices.Equal(b[:cap(b)], wholeB) {
		r.t.Fatalf("%v changed %v, %v to %v, %v", s, wholeA, wholeB, a[:cap(a)], b[:cap(b)])
	}
	return r.put(s, told)
}

// behind is a copy of a row, with room behind it that has other numbers.
func behind(row []int) []int {
	return append(slices.Clone(row), -7, -7, -7)[:len(row)]
}

// all are the literals of refs.
func (r *run) all(refs []ref) []int {
	var l []int
	for _, f := range refs {
		x := r.bits[f.at]
		if f.not {
			x ^= 1
		}
		l = append(l, x)
	}
	return l
}

func not(f ref) ref { return ref{at: f.at, not: !f.not} }

// nots are the Nots of a row.
func nots(row []ref) []ref {
	var l []ref
	for _, f := range row {
		l = append(l, not(f))
	}
	return l
}

// number is the word of a row, where what was told has these truths.
func number(row []ref, truths []bool) *big.Int {
	x := new(big.Int)
	for i, f := range row {
		if truths[f.at] != f.not {
			x.SetBit(x, i, 1)
		}
	}
	return x
}

// truths are those of all bits that were told, step by step, where the inputs
// have these; no clause plays a part.
func (r *run) truths(in []bool) []bool {
	r.t.Helper()
	var out []bool
	for _, s := range r.steps {
		if s.free {
			out, in = append(out, in[:s.w]...), in[s.w:]
			continue
		}
		x := s.x
		if s.kind != nil {
			a := number(s.of[0], out)
			b := number(s.of[len(s.of)-1], out)
			w, c := len(s.of[0]), s.kind.cond && out[s.c.at] != s.c.not
			x = s.kind.says(w, c, a, b)
			r.asWords(s.kind, w, a, b, x)
		}
		for i := range s.w {
			out = append(out, x.Bit(i) == 1)
		}
	}
	return out
}

// asWords asks that the plain reckoning is what chapter 1 says of words.
func (r *run) asWords(k *kind, w int, a, b, x *big.Int) {
	r.t.Helper()
	if k.op == 0 || w > api.MaxWidth {
		return
	}
	want, e := word.Binary(k.op, w, a.Uint64(), b.Uint64())
	if k.rows == 1 {
		want, e = word.Unary(k.op, w, a.Uint64())
	}
	if e != api.OK || x.Uint64() != want {
		r.t.Fatalf("%s of %v, %v (%d bits) is %v, and in chapter 1 %d, %d", k.name, a, b, w, x, want, e)
	}
}

// set are the inputs' literals that hold where the inputs have these truths.
func (r *run) set(in []bool) []int {
	var l []int
	at := 0
	for _, s := range r.steps {
		for i := range s.w {
			if !s.free {
				continue
			}
			x := r.bits[at+i]
			if !in[0] {
				x ^= 1
			}
			l, in = append(l, x), in[1:]
		}
		at += s.w
	}
	return l
}

// follows asks that what is meant (19.2) holds of all that was told where the
// inputs have these truths.
func (r *run) follows(in []bool) {
	r.t.Helper()
	held, ok := unit.Close(r.g.Clauses(), r.set(in))
	if !ok {
		r.t.Fatalf("%v: Close is false where the inputs are %v", r.steps, in)
	}
	for i, is := range r.truths(in) {
		x := r.bits[i]
		if !is {
			x ^= 1
		}
		if !has(held, x) || has(held, x^1) {
			r.t.Fatalf("%v: bit %d is to be %v where the inputs are %v; Close has %d %v, its Not %v",
				r.whose(i), i, is, in, r.bits[i], has(held, r.bits[i]), has(held, r.bits[i]^1))
		}
	}
}

// whose is the step that told bit i.
func (r *run) whose(i int) step {
	for _, s := range r.steps {
		if i -= s.w; i < 0 {
			return s
		}
	}
	return step{}
}

func (s step) String() string {
	switch {
	case s.free:
		return fmt.Sprintf("%d Inputs", s.w)
	case s.kind == nil:
		return fmt.Sprintf("Const(%d, %v)", s.w, s.x)
	case s.kind.cond:
		return fmt.Sprintf("%s(%v, %v)", s.kind.name, s.c, s.of)
	}
	return fmt.Sprintf("%s(%v)", s.kind.name, s.of)
}

func has(rising []int, x int) bool {
	_, is := slices.BinarySearch(rising, x)
	return is
}

// followsAll is follows under all truths of the inputs.
func (r *run) followsAll() {
	r.t.Helper()
	for bits := range 1 << r.inputs {
		in := make([]bool, r.inputs)
		for i := range in {
			in[i] = bits>>i&1 == 1
		}
		r.follows(in)
	}
}

// followsWords is follows where the inputs, from the first on, are these words
// of width w, cut where the inputs end; those behind them do not hold.
func (r *run) followsWords(w int, words ...uint64) {
	r.t.Helper()
	var in []bool
	for _, x := range words {
		for i := range w {
			in = append(in, x>>i&1 == 1)
		}
	}
	r.follows(append(in, make([]bool, r.inputs)...)[:r.inputs])
}

// followsSome is follows under some truths of the inputs, by chance, and under
// none and all of them.
func (r *run) followsSome(rnd *rand.Rand, times int) {
	r.t.Helper()
	for n := range times {
		r.follows(someTruths(rnd, r.inputs, n))
	}
}

// someTruths are n truths at random: in some of the times all the same, or
// such as come in long parts, as words near 0 and near the highest bit have.
func someTruths(rnd *rand.Rand, n, times int) []bool {
	in := make([]bool, n)
	switch times % 4 {
	case 0:
		is := rnd.Intn(2) == 0
		for i := range in {
			in[i] = is
		}
	case 1:
		is := rnd.Intn(2) == 0
		for i := range in {
			if rnd.Intn(8) == 0 {
				is = !is
			}
			in[i] = is
		}
	default:
		for i := range in {
			in[i] = rnd.Intn(2) == 0
		}
	}
	return in
}

// growth is how rows of calls grow at random: rows of these widths, and of so
// many inputs; the last so many bits that were told are handed in.
type growth struct {
	widths []int
	inputs int
	last   int
}

// pick is a row of w bits that were told: the bits of one row, in order, or
// any, with Nots or none.
func (r *run) pick(rnd *rand.Rand, w, last int) []ref {
	n := len(r.bits)
	from := max(0, n-last)
	var row []ref
	start := from + rnd.Intn(n-from)
	mixed, turn := rnd.Intn(3), rnd.Intn(4) == 0
	for i := range w {
		f := ref{at: (start + i) % n, not: turn}
		if mixed == 0 {
			f = ref{at: from + rnd.Intn(n-from), not: rnd.Intn(2) == 0}
		}
		row = append(row, f)
	}
	return row
}

// grow puts so many calls behind those of the run.
func (r *run) grow(rnd *rand.Rand, calls int, how growth) {
	r.t.Helper()
	for range calls {
		w := how.widths[rnd.Intn(len(how.widths))]
		switch n := rnd.Intn(20); {
		case len(r.bits) == 0 || n < 3 && r.inputs+w <= how.inputs:
			r.input(min(w, how.inputs))
		case n < 5 && w <= api.MaxWidth:
			r.constant(w, rnd.Uint64()>>rnd.Intn(64))
		default:
			k := kinds[rnd.Intn(len(kinds))]
			rows := [][]ref{r.pick(rnd, w, how.last), r.pick(rnd, w, how.last)}
			if rnd.Intn(8) == 0 {
				rows[1] = rows[0]
			}
			r.call(k, r.pick(rnd, 1, how.last)[0], rows[:k.rows]...)
		}
	}
}

// Many calls of one another, each held against what it says: few inputs under
// all truths, more of them under some.
func TestRandomRuns(t *testing.T) {
	for seed := range int64(300) {
		rnd := rand.New(rand.NewSource(seed))
		r := newRun(t)
		r.grow(rnd, 1+rnd.Intn(25), growth{widths: []int{1, 2, 3, 4, 5}, inputs: 6, last: 8 + rnd.Intn(60)})
		r.followsAll()
	}
	for seed := range int64(20) {
		rnd := rand.New(rand.NewSource(1000 + seed))
		r := newRun(t)
		how := growth{widths: []int{1, 2, 7, 8, 31, 32, 33, 63, 64, 65, 66, 100, 130}, inputs: 300, last: 50 + rnd.Intn(600)}
		for range 5 {
			r.grow(rnd, 20, how)
			r.followsSome(rnd, 4)
		}
	}
}

// What was told is as it says behind each call, not just at the end.
func TestRandomRunsCallByCall(t *testing.T) {
	for seed := range int64(60) {
		rnd := rand.New(rand.NewSource(2000 + seed))
		r := newRun(t)
		for range 20 {
			r.grow(rnd, 1, growth{widths: []int{1, 2, 3}, inputs: 4, last: 20})
			r.followsAll()
		}
	}
}

func TestLargeRun(t *testing.T) {
	rnd := rand.New(rand.NewSource(7))
	r := newRun(t)
	r.grow(rnd, 1500, growth{widths: []int{1, 8, 16, 32, 64, 64, 64, 128}, inputs: 1000, last: 4000})
	r.followsSome(rnd, 4)
}
