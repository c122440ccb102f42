package shift

import (
	"math/big"
	"math/rand"
	"slices"
	"strconv"
	"testing"

	"breakwater/api"
	"breakwater/arith"
	"breakwater/gate"
	"breakwater/lit"
	"breakwater/mult"
	"breakwater/unit"
	"breakwater/word"
)

// operation is a call that is handed two rows: how it is asked for, what words
// the rows that it tells are to be where those are a and b, of width w, and,
// row by row, chapter 1's operator of the same.
type operation struct {
	name string
	ask  func(g *gate.Gates, a, b []int) [][]int
	says func(w int, a, b *big.Int) []*big.Int
	ops  []int
}

var (
	shl = move("Move by OpShl", api.OpShl)
	shr = move("Move by OpShr", api.OpShr)
	sar = move("Move by OpSar", api.OpSar)
	// moves are the calls of this package.
	moves = []*operation{shl, shr, sar}
	// others are calls of chapters 20 and 21, for rows that go in and come out.
	others = []*operation{
		one("Add", arith.Add, func(_ int, a, b *big.Int) *big.Int { return new(big.Int).Add(a, b) }, api.OpAdd),
		one("Sub", arith.Sub, func(_ int, a, b *big.Int) *big.Int { return new(big.Int).Sub(a, b) }, api.OpSub),
		one("Neg", func(g *gate.Gates, a, _ []int) []int { return arith.Neg(g, a) },
			func(_ int, a, _ *big.Int) *big.Int { return new(big.Int).Neg(a) }),
		one("Ite of b's lowest bit", func(g *gate.Gates, a, b []int) []int { return arith.Ite(g, b[0], a, b) },
			func(_ int, a, b *big.Int) *big.Int {
				if b.Bit(0) == 1 {
					return a
				}
				return b
			}),
		one("Mul", mult.Mul, func(_ int, a, b *big.Int) *big.Int { return new(big.Int).Mul(a, b) }, api.OpMul),
		{"Divide", func(g *gate.Gates, a, b []int) [][]int {
			q, r := mult.Divide(g, a, b)
			return [][]int{q, r}
		}, quotient, []int{api.OpUdiv, api.OpUrem}},
	}
)

// one is an operation that tells one row, of the word that says tells, cut.
func one(name string, ask func(g *gate.Gates, a, b []int) []int, says func(w int, a, b *big.Int) *big.Int, ops ...int) *operation {
	return &operation{name,
		func(g *gate.Gates, a, b []int) [][]int { return [][]int{ask(g, a, b)} },
		func(w int, a, b *big.Int) []*big.Int { return []*big.Int{cut(w, says(w, a, b))} },
		ops}
}

func move(name string, op int) *operation {
	return one(name,
		func(g *gate.Gates, a, b []int) []int { return Move(g, op, a, b) },
		func(w int, a, b *big.Int) *big.Int { return movedWord(op, w, a, b) },
		op)
}

// movedWord is a moved by b as op says, place by place: where each bit of it
// comes from, and what there is if that is no place of a.
func movedWord(op, w int, a, b *big.Int) *big.Int {
	x := new(big.Int)
	for to := range w {
		from := new(big.Int).Add(big.NewInt(int64(to)), b)
		if op == api.OpShl {
			from.Sub(big.NewInt(int64(to)), b)
		}
		switch {
		case from.Sign() >= 0 && from.Cmp(big.NewInt(int64(w))) < 0:
			x.SetBit(x, to, a.Bit(int(from.Int64())))
		case op == api.OpSar:
			x.SetBit(x, to, a.Bit(w-1))
		}
	}
	return x
}

func quotient(w int, a, b *big.Int) []*big.Int {
	if b.Sign() == 0 {
		return []*big.Int{greatest(w), a}
	}
	q, r := new(big.Int).QuoRem(a, b, new(big.Int))
	return []*big.Int{q, r}
}

func number(x int) *big.Int { return big.NewInt(int64(x)) }

// power is 2 to the n.
func power(n int) *big.Int { return new(big.Int).Lsh(big.NewInt(1), uint(n)) }

// greatest is the word of w bits that are all set.
func greatest(w int) *big.Int { return new(big.Int).Sub(power(w), big.NewInt(1)) }

// cut is the word that x's lowest w bits are, also if x is below 0.
func cut(w int, x *big.Int) *big.Int { return new(big.Int).Mod(x, power(w)) }

// near is x and n together, as a word of w bits.
func near(w int, x *big.Int, n int) *big.Int { return cut(w, new(big.Int).Add(x, number(n))) }

// row is literals that were told, and what word they are to be: says reckons
// it from rows ahead, as now has them; a row of Inputs has none, and may be any.
type row struct {
	name string
	lits []int
	says func() *big.Int
	now  *big.Int
}

func (r *row) width() int { return len(r.lits) }

// bit is one of a row's, or its Not.
type bit struct {
	of    *row
	place int
	not   bool
}

func (b bit) literal() int {
	x := b.of.lits[b.place]
	if b.not {
		return lit.Not(x)
	}
	return x
}

func (b bit) now() uint {
	x := b.of.now.Bit(b.place)
	if b.not {
		return 1 - x
	}
	return x
}

// sheet is gates, and all rows that were told of them, one behind the other.
type sheet struct {
	t    *testing.T
	g    *gate.Gates
	rows []*row
}

func newSheet(t *testing.T) *sheet { return &sheet{t: t, g: gate.New()} }

func (s *sheet) put(r *row) *row {
	s.rows = append(s.rows, r)
	return r
}

// input is a row of w Inputs.
func (s *sheet) input(w int) *row {
	r := &row{name: strconv.Itoa(w) + " Inputs"}
	for range w {
		r.lits = append(r.lits, s.g.Input())
	}
	return s.put(r)
}

// constant is the row of x's lowest w bits, of any width.
func (s *sheet) constant(w int, x *big.Int) *row {
	x = cut(w, x)
	r := &row{name: x.String(), says: func() *big.Int { return x }}
	for i := range w {
		l := s.g.True()
		if x.Bit(i) == 0 {
			l = lit.Not(l)
		}
		r.lits = append(r.lits, l)
	}
	return s.put(r)
}

// of is a row of bits of other rows.
func (s *sheet) of(bits ...bit) *row {
	r := &row{name: "bits of rows"}
	for _, b := range bits {
		r.lits = append(r.lits, b.literal())
	}
	r.says = func() *big.Int {
		x := new(big.Int)
		for i, b := range bits {
			x.SetBit(x, i, b.now())
		}
		return x
	}
	return s.put(r)
}

// nots is the row of the Nots of r's bits.
func (s *sheet) nots(r *row) *row {
	var bits []bit
	for i := range r.lits {
		bits = append(bits, bit{of: r, place: i, not: true})
	}
	return s.of(bits...)
}

// call asks for o of a and b, which are to stay as they are, with what is in
// memory behind them; the rows that it tells are to be as long.
func (s *sheet) call(o *operation, a, b *row) []*row {
	s.t.Helper()
	const behind = -77
	handA, handB := append(slices.Clone(a.lits), behind, behind), append(slices.Clone(b.lits), behind, behind)
	wasA, wasB := slices.Clone(handA), slices.Clone(handB)
	w := a.width()
	told := o.ask(s.g, handA[:w], handB[:w])
	if !slices.Equal(handA, wasA) || !slices.Equal(handB, wasB) {
		s.t.Fatalf("%s of %v and %v left %v and %v", o.name, wasA, wasB, handA, handB)
	}
	var out []*row
	for i, lits := range told {
		if len(lits) != w {
			s.t.Fatalf("%s of rows of %d told a row of %d", o.name, w, len(lits))
		}
		if slices.Min(lits) < 0 || slices.Max(lits) >= 2*s.g.Vars() {
			s.t.Fatalf("%s told %v, of %d variables", o.name, lits, s.g.Vars())
		}
		name := o.name + " (" + strconv.Itoa(i) + ") of " + a.name + " and " + b.name
		out = append(out, s.put(&row{name: shorter(name), lits: lits, says: func() *big.Int {
			x := o.says(w, a.now, b.now)
			s.asWords(o, w, a.now, b.now, x)
			return x[i]
		}}))
	}
	return out
}

func shorter(name string) string { return name[:min(len(name), 120)] }

// callAll asks for each move of a by b.
func (s *sheet) callAll(a, b *row) []*row {
	s.t.Helper()
	var out []*row
	for _, o := range moves {
		out = append(out, s.call(o, a, b)...)
	}
	return out
}

// asWords asks that what o is reckoned as is what chapter 1 says of words.
func (s *sheet) asWords(o *operation, w int, a, b *big.Int, is []*big.Int) {
	s.t.Helper()
	if w > api.MaxWidth {
		return
	}
	for i, op := range o.ops {
		want, e := word.Binary(op, w, a.Uint64(), b.Uint64())
		if x := is[i]; e != api.OK || x.Cmp(new(big.Int).SetUint64(want)) != 0 {
			s.t.Fatalf("%s (%d) of %v and %v, %d bits, is reckoned as %v, and in chapter 1 %d, %d", o.name, i, a, b, w, x, want, e)
		}
	}
}

// holds asks that what is meant (19.2) holds of all rows where the Inputs, row
// by row, are these words: Close is true, and has of each literal that was told
// it, or its Not, as its row's word says.
func (s *sheet) holds(in ...*big.Int) {
	s.t.Helper()
	var set []int
	free := in
	for _, r := range s.rows {
		if r.says != nil {
			r.now = r.says()
			continue
		}
		r.now, free = cut(r.width(), free[0]), free[1:]
		for i, x := range r.lits {
			set = append(set, x^int(1-r.now.Bit(i)))
		}
	}
	known, ok := unit.Close(s.g.Clauses(), set)
	if !ok {
		s.t.Fatalf("Close is false where the Inputs are %v", in)
	}
	for _, r := range s.rows {
		for i, x := range r.lits {
			is := x ^ int(1-r.now.Bit(i))
			if !has(known, is) || has(known, lit.Not(is)) {
				s.t.Fatalf("%s is to be %v where the Inputs are %v: of bit %d Close has the literal %v, its Not %v",
					r.name, r.now, in, i, has(known, x), has(known, lit.Not(x)))
			}
		}
	}
}

func has(rising []int, x int) bool {
	_, is := slices.BinarySearch(rising, x)
	return is
}

// widths are those of the rows of Inputs.
func (s *sheet) widths() []int {
	var l []int
	for _, r := range s.rows {
		if r.says == nil {
			l = append(l, r.width())
		}
	}
	return l
}

// holdsAll is holds with all words of the Inputs.
func (s *sheet) holdsAll() {
	s.t.Helper()
	each := func(do func(in []*big.Int)) { do(nil) }
	for _, w := range s.widths() {
		ahead := each
		each = func(do func(in []*big.Int)) {
			ahead(func(in []*big.Int) {
				for x := range 1 << w {
					do(append(slices.Clone(in), number(x)))
				}
			})
		}
	}
	each(func(in []*big.Int) { s.holds(in...) })
}

// holdsSome is holds with some words of the Inputs, by chance.
func (s *sheet) holdsSome(rnd *rand.Rand, times int) {
	s.t.Helper()
	for range times {
		var in []*big.Int
		for _, w := range s.widths() {
			in = append(in, someWord(rnd, w))
		}
		s.holds(in...)
	}
}

// someWord is a word of w bits by chance: few of those that are evenly drawn
// are less than a width, so that such, and those about it, come as well.
func someWord(rnd *rand.Rand, w int) *big.Int {
	switch rnd.Intn(8) {
	case 0, 1, 2:
		return cut(w, number(rnd.Intn(w+2)))
	case 3:
		return near(w, number(w), rnd.Intn(5)-2)
	case 4:
		return near(w, power(rnd.Intn(w)), rnd.Intn(3)-1)
	case 5:
		return near(w, greatest(w), -rnd.Intn(2))
	}
	return new(big.Int).Rand(rnd, power(w))
}

// pick is a row of w bits: one that was told, or bits of those that were told
// last, as they stand there, with Nots or none.
func (s *sheet) pick(rnd *rand.Rand, w int) *row {
	some := func() *row { return s.rows[len(s.rows)-1-rnd.Intn(min(len(s.rows), 12))] }
	for range 10 {
		if r := some(); r.width() == w {
			return r
		}
	}
	var bits []bit
	for len(bits) < w {
		r, not := some(), rnd.Intn(4) == 0
		for i := range min(r.width(), 1+rnd.Intn(w), w-len(bits)) {
			bits = append(bits, bit{of: r, place: i, not: not})
		}
	}
	return s.of(bits...)
}

// grow puts so many calls behind the rows, of rows of these widths, beside
// Inputs (of so many bits in all) and constants.
func (s *sheet) grow(rnd *rand.Rand, calls int, widths []int, inputs int) {
	s.t.Helper()
	for _, w := range s.widths() {
		inputs -= w
	}
	for range calls {
		w := widths[rnd.Intn(len(widths))]
		switch n := rnd.Intn(16); {
		case len(s.rows) == 0 || n < 3 && w <= inputs:
			w = min(w, inputs)
			inputs -= w
			s.input(w)
		case n < 5:
			s.constant(w, someWord(rnd, w))
		case n < 8:
			s.call(others[rnd.Intn(len(others))], s.pick(rnd, w), s.pick(rnd, w))
		case n == 8:
			r := s.pick(rnd, w)
			s.call(moves[rnd.Intn(len(moves))], r, r)
		default:
			s.call(moves[rnd.Intn(len(moves))], s.pick(rnd, w), s.pick(rnd, w))
		}
	}
}

// literals are those of all rows, one behind the other.
func (s *sheet) literals() []int {
	var all []int
	for _, r := range s.rows {
		all = append(all, r.lits...)
	}
	return all
}

// Calls of one another at random, each held against what it says: of few
// Inputs with all words, of more of them with some.
func TestRandomSheets(t *testing.T) {
	for seed := range int64(200) {
		rnd := rand.New(rand.NewSource(seed))
		s := newSheet(t)
		s.grow(rnd, 1+rnd.Intn(18), []int{1, 2, 3, 4, 5}, 6)
		s.holdsAll()
	}
	for seed := range int64(40) {
		rnd := rand.New(rand.NewSource(1000 + seed))
		s := newSheet(t)
		s.grow(rnd, 14, []int{6, 7, 8, 9, 15, 16, 17, 31}, 120)
		s.holdsSome(rnd, 8)
	}
	for seed := range int64(12) {
		rnd := rand.New(rand.NewSource(2000 + seed))
		s := newSheet(t)
		s.grow(rnd, 8, []int{32, 33, 63, 64, 65, 70}, 300)
		s.holdsSome(rnd, 6)
	}
}

// What was told is as it says behind each call, not just at the end.
func TestRandomSheetsCallByCall(t *testing.T) {
	for seed := range int64(40) {
		rnd := rand.New(rand.NewSource(3000 + seed))
		s := newSheet(t)
		for range 12 {
			s.grow(rnd, 1, []int{1, 2, 3}, 4)
			s.holdsAll()
		}
	}
}
