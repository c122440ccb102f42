package blast

import (
	"math"
	"math/rand"
	"slices"
	"sync"
	"testing"

	"breakwater/api"
	"breakwater/arith"
	"breakwater/gate"
	"breakwater/lit"
	"breakwater/sat"
	"breakwater/sem"
	"breakwater/term"
	"breakwater/unit"
)

// twos are the operators of two terms.
var twos = []int{api.OpAdd, api.OpSub, api.OpMul, api.OpUdiv, api.OpUrem, api.OpAnd, api.OpOr, api.OpXor,
	api.OpShl, api.OpShr, api.OpSar, api.OpEq, api.OpUlt, api.OpSlt}

// most is the greatest word of w bits.
func most(w int) uint64 { return 1<<w - 1 }

// words are words of w bits: about 0, about the width, with the highest bit set
// and not, with all bits, or each second one.
func words(w int) []uint64 {
	top := uint64(1) << (w - 1)
	l := []uint64{0, 1, 2, 3, uint64(w - 1), uint64(w), uint64(w + 1), top - 1, top, top + 1, most(w) - 1, most(w),
		0x5555555555555555, 0xaaaaaaaaaaaaaaaa, 0xfedcba9876543210, 0x0123456789abcdef, 1 << (w / 2)}
	for i := range l {
		l[i] &= most(w)
	}
	slices.Sort(l)
	return slices.Compact(l)
}

// Each kind of term: x and y are terms of w bits, c is one of a bit.

// kindsOf makes terms of all kinds.
func (s *sheet) kindsOf(w, c, x, y int) []int {
	s.t.Helper()
	ids := []int{c, x, y, s.unary(api.OpNot, x), s.unary(api.OpNeg, y), s.ite(c, x, y), s.ite(c, y, y)}
	for _, op := range twos {
		ids = append(ids, s.binary(op, x, y), s.binary(op, x, x))
	}
	for _, v := range words(w) {
		ids = append(ids, s.word(w, v))
	}
	for _, n := range []int{1, 2, w / 2, w - 1, w} {
		if n > 0 && n <= w {
			ids = append(ids, s.extract(x, 0, n), s.extract(x, w-n, n), s.extract(y, (w-n)/2, n))
		}
	}
	for _, n := range []int{w, w + 1, w + 2, 2 * w, (w + 64) / 2, 63, 64} {
		if n >= w && n <= api.MaxWidth {
			ids = append(ids, s.widen(x, n), s.widenSigned(x, n))
		}
	}
	for _, of := range [][2]int{{x, y}, {y, x}, {c, x}, {x, c}, {x, x}} {
		if s.d.Width(of[0])+s.d.Width(of[1]) <= api.MaxWidth {
			ids = append(ids, s.concat(of[0], of[1]))
		}
	}
	return ids
}

// all is a sheet of terms of all kinds, of the variables 3 (a bit), 0 and 200.
func all(t *testing.T, w int) *sheet {
	t.Helper()
	s := newSheet(t)
	s.kindsOf(w, s.variable(1, 3), s.variable(w, 0), s.variable(w, 200))
	return s
}

// at3 are words of the three variables of all.
func at3(c, x, y uint64) []uint64 {
	env := make([]uint64, 201)
	env[0], env[3], env[200] = x, c, y
	return env
}

// Of small widths all words.
func TestKindsOfAllWords(t *testing.T) {
	for w := 1; w <= 5; w++ {
		s := all(t, w)
		s.askAll()
		s.holdsAll()
	}
}

// Each term on gates of its own, with nothing beside it.
func TestKindsAlone(t *testing.T) {
	for w := 1; w <= 3; w++ {
		for id := range all(t, w).d.Len() {
			s := all(t, w)
			s.ask(id)
			s.holdsAll()
		}
	}
}

// At all widths, with words at the edges.
func TestKindsOfAllWidths(t *testing.T) {
	for part := range 8 {
		t.Run("", func(t *testing.T) {
			t.Parallel()
			for w := part + 1; w <= api.MaxWidth; w += 8 {
				s := all(t, w)
				s.askAll()
				l := words(w)
				for i, x := range l {
					// The wider ones take turns, as each takes its time.
					if w <= 16 || (i+w/8)%2 == 0 {
						s.holds(at3(uint64(i), x, l[(i*5+w)%len(l)])...)
					}
				}
				s.holds(at3(1, l[w%len(l)], 0)...)
			}
		})
	}
}

// The widest of all kinds with each pair of some words.
func TestKindsOfTheWidest(t *testing.T) {
	for _, w := range []int{63, 64} {
		for _, x := range words(w) {
			t.Run("", func(t *testing.T) {
				t.Parallel()
				s := all(t, w)
				s.askAll()
				for i, y := range words(w) {
					if (i+int(x))%3 == 0 {
						s.holds(at3(x, x, y)...)
					}
				}
			})
		}
	}
}

// Words of more bits than the variable has are cut, and one that has none is 0.
func TestWordsOfVariables(t *testing.T) {
	s := all(t, 5)
	s.askAll()
	for _, x := range []uint64{0, 32, 33, 1 << 63, math.MaxUint64} {
		s.holds(at3(x, x, x>>1)...)
	}
	s.holds()
	s.holds(7)
	s.holds(at3(1, 9, 21)[:4]...)
}

// Terms of which both parts are words: one row of truths, and of no variable.
func TestKindsOfConstants(t *testing.T) {
	for w := 1; w <= 3; w++ {
		s := newSheet(t)
		for c := range uint64(2) {
			for x := range uint64(1) << w {
				for y := range uint64(1) << w {
					s.kindsOf(w, s.word(1, c), s.word(w, x), s.word(w, y))
				}
			}
		}
		s.askAll()
		s.holds()
	}
	for _, w := range []int{8, 32, 63, 64} {
		s := newSheet(t)
		l := words(w)
		for i, x := range l {
			s.kindsOf(w, s.word(1, x), s.word(w, x), s.word(w, l[(3*i+1)%len(l)]))
			s.kindsOf(w, s.word(1, x), s.word(w, x), s.word(w, 0))
		}
		s.askAll()
		s.holds()
	}
}

// Terms of which one part is a word, the other a variable.
func TestKindsOfOneConstant(t *testing.T) {
	for w := 1; w <= 4; w++ {
		s := newSheet(t)
		c, x := s.variable(1, 3), s.variable(w, 0)
		for y := range uint64(1) << w {
			s.kindsOf(w, c, x, s.word(w, y))
			s.kindsOf(w, s.word(1, y), s.word(w, y), x)
		}
		s.askAll()
		s.holdsAll()
	}
	s := newSheet(t)
	x := s.variable(64, 0)
	for _, y := range []uint64{0, 1, 5, 63, 64, 1 << 63, math.MaxUint64} {
		s.kindsOf(64, s.word(1, y), x, s.word(64, y))
	}
	s.askAll()
	for _, x := range words(64) {
		s.holds(x)
	}
}

// What terms of 1, 3 and 4 bits mean, in a table that is written out: the
// operator, both words, and what it makes of them.
func TestTable(t *testing.T) {
	for w, cases := range map[int][][4]uint64{
		1: {
			{api.OpAdd, 1, 1, 0}, {api.OpSub, 0, 1, 1}, {api.OpMul, 1, 1, 1}, {api.OpUdiv, 0, 0, 1}, {api.OpUdiv, 1, 1, 1},
			{api.OpUrem, 1, 0, 1}, {api.OpUrem, 1, 1, 0}, {api.OpAnd, 1, 0, 0}, {api.OpOr, 1, 0, 1}, {api.OpXor, 1, 1, 0},
			{api.OpShl, 1, 1, 0}, {api.OpShr, 1, 1, 0}, {api.OpSar, 1, 1, 1}, {api.OpEq, 0, 0, 1}, {api.OpEq, 0, 1, 0},
			{api.OpUlt, 0, 1, 1}, {api.OpUlt, 1, 0, 0}, {api.OpSlt, 0, 1, 0}, {api.OpSlt, 1, 0, 1},
		},
		3: {
			{api.OpAdd, 5, 6, 3}, {api.OpSub, 2, 5, 5}, {api.OpMul, 3, 5, 7}, {api.OpUdiv, 7, 2, 3}, {api.OpUrem, 7, 4, 3},
			{api.OpUdiv, 5, 0, 7}, {api.OpUrem, 5, 0, 5}, {api.OpAnd, 6, 3, 2}, {api.OpOr, 6, 3, 7}, {api.OpXor, 6, 3, 5},
			{api.OpShl, 5, 1, 2}, {api.OpShl, 1, 3, 0}, {api.OpShr, 6, 1, 3}, {api.OpShr, 6, 4, 0}, {api.OpSar, 6, 1, 7},
			{api.OpSar, 4, 7, 7}, {api.OpSar, 3, 1, 1}, {api.OpSar, 3, 3, 0}, {api.OpEq, 6, 6, 1}, {api.OpUlt, 3, 4, 1},
			{api.OpUlt, 4, 3, 0}, {api.OpSlt, 3, 4, 0}, {api.OpSlt, 4, 3, 1}, {api.OpSlt, 7, 0, 1}, {api.OpSlt, 2, 2, 0},
		},
		4: {
			{api.OpAdd, 15, 1, 0}, {api.OpSub, 0, 15, 1}, {api.OpMul, 7, 5, 3}, {api.OpMul, 15, 15, 1}, {api.OpUdiv, 15, 4, 3},
			{api.OpUrem, 15, 4, 3}, {api.OpUdiv, 3, 9, 0}, {api.OpUrem, 3, 9, 3}, {api.OpUdiv, 0, 0, 15}, {api.OpUrem, 0, 0, 0},
			{api.OpShl, 3, 3, 8}, {api.OpShl, 3, 4, 0}, {api.OpShr, 12, 3, 1}, {api.OpShr, 15, 8, 0}, {api.OpSar, 8, 1, 12},
			{api.OpSar, 8, 15, 15}, {api.OpSar, 7, 15, 0}, {api.OpEq, 8, 0, 0}, {api.OpUlt, 7, 8, 1}, {api.OpSlt, 7, 8, 0},
		},
	} {
		s := newSheet(t)
		x, y := s.variable(w, 0), s.variable(w, 1)
		for _, c := range cases {
			id := s.binary(int(c[0]), x, y)
			s.ask(id)
			s.hasWord(id, c[3], c[1], c[2])
		}
	}
}

// hasWord asks that the row of a term that was asked for is the word want,
// where the variables have the words of env, and that chapter 16 says so.
func (s *sheet) hasWord(id int, want uint64, env ...uint64) {
	s.t.Helper()
	s.holds(env...)
	s.saysWord(id, want, env...)
}

// saysWord is hasWord behind holds of env.
func (s *sheet) saysWord(id int, want uint64, env ...uint64) {
	s.t.Helper()
	if s.first[id] == nil {
		s.t.Fatalf("the term %d %+v was not asked for", id, s.node(id))
	}
	if x, e := sem.Value(s.d, id, env); e != api.OK || x != want {
		s.t.Fatalf("the term %d %+v is %d, %d where the words are %v, and not %d", id, s.node(id), x, e, env, want)
	}
}

// The chapter's example.
func TestConstantHasNoInput(t *testing.T) {
	for _, w := range []int{1, 2, 8, 63, 64} {
		for _, x := range words(w) {
			s := newSheet(t)
			id := s.word(w, x)
			s.ask(id)
			if vars, _ := s.size(); vars != 1 {
				t.Errorf("the row of the word %d of %d bits made %d variables", x, w, vars-1)
			}
			s.hasWord(id, x)
			if l := s.b.Inputs(); len(l) != 0 {
				t.Errorf("the word %d of %d bits has the Inputs %v", x, w, l)
			}
		}
	}
}

// A variable's row is that of its Input, and of free bits: all words may be.
func TestVariablesAreInputs(t *testing.T) {
	for _, w := range []int{1, 2, 3, 8, 63, 64} {
		for _, i := range []int{0, 1, 77, api.MaxInputs - 1} {
			s := newSheet(t)
			id := s.variable(w, i)
			if row := s.row(id); !slices.Equal(row, s.b.Input(i)) {
				t.Fatalf("the row of variable %d is %v, its Input %v", i, row, s.b.Input(i))
			}
			for _, x := range words(w) {
				env := make([]uint64, api.MaxInputs)
				env[i] = x
				s.hasWord(id, x, env...)
			}
			if known, ok := unit.Close(s.g.Clauses(), nil); !ok || len(known) != 1 {
				t.Errorf("where nothing is said of variable %d, %v follows, %v", i, known, ok)
			}
		}
	}
}

// Comparisons are one bit, however wide what they compare.
func TestComparisonsOfWideWords(t *testing.T) {
	for _, w := range []int{2, 8, 31, 33, 64} {
		s := newSheet(t)
		x, y := s.variable(w, 0), s.variable(w, 1)
		var ids []int
		for _, op := range []int{api.OpEq, api.OpUlt, api.OpSlt} {
			for _, of := range [][2]int{{x, y}, {y, x}, {x, x}, {x, s.word(w, 0)}, {s.word(w, 1<<(w-1)), x}, {x, s.word(w, most(w))}} {
				id := s.binary(op, of[0], of[1])
				if row := s.row(id); len(row) != 1 {
					t.Fatalf("the operator %d of %d bits has the row %v", op, w, row)
				}
				ids = append(ids, id)
			}
		}
		// And what is made of them is one bit again.
		s.ask(s.binary(api.OpEq, ids[0], ids[7]), s.binary(api.OpAdd, ids[1], ids[8]), s.binary(api.OpSlt, ids[2], ids[12]), s.unary(api.OpNeg, ids[13]))
		for i, v := range words(w) {
			s.holds(v, v)
			s.holds(v, words(w)[(7*i+3)%len(words(w))])
			s.holds(v, v^1<<(w-1))
			s.holds(v, v^1)
		}
	}
}

// By 0, be it a word, a variable or what is always 0.
func TestDivisionByNought(t *testing.T) {
	for _, w := range []int{1, 2, 3, 8, 64} {
		s := newSheet(t)
		x, y := s.variable(w, 0), s.variable(w, 1)
		var quotients, rests []int
		for _, by := range []int{s.word(w, 0), y, s.binary(api.OpSub, x, x), s.binary(api.OpAnd, y, s.unary(api.OpNot, y))} {
			quotients = append(quotients, s.binary(api.OpUdiv, x, by))
			rests = append(rests, s.binary(api.OpUrem, x, by))
		}
		s.askAll()
		for _, v := range words(w) {
			s.holds(v, 0)
			for i := range quotients {
				s.saysWord(quotients[i], most(w), v, 0)
				s.saysWord(rests[i], v, v, 0)
			}
			s.holds(v, 1)
			s.holds(v, v)
		}
	}
}

// By 0, by all that is less than the width, by the width and by more.
func TestMovesByTheWidthAndMore(t *testing.T) {
	for _, w := range []int{1, 2, 3, 5, 8, 33, 63, 64} {
		s := newSheet(t)
		x, y := s.variable(w, 0), s.variable(w, 1)
		var free []int
		for _, op := range []int{api.OpShl, api.OpShr, api.OpSar} {
			free = append(free, s.binary(op, x, y))
			for _, n := range []int{0, 1, w - 1, w, w + 1} {
				if uint64(n) <= most(w) {
					s.binary(op, x, s.word(w, uint64(n)))
				}
			}
			s.binary(op, x, s.word(w, most(w)))
		}
		s.askAll()
		for _, v := range []uint64{1, most(w), 1 << (w - 1), most(w) >> 1} {
			for _, n := range words(w) {
				s.holds(v, n)
				if n < uint64(w) {
					continue
				}
				sign := -(v >> (w - 1)) & most(w)
				for i, want := range []uint64{0, 0, sign} {
					s.saysWord(free[i], want, v, n)
				}
			}
		}
	}
}

// All bits that may be taken of a term, and of one that was itself taken.
func TestExtracts(t *testing.T) {
	for w := 1; w <= 6; w++ {
		s := newSheet(t)
		x := s.variable(w, 0)
		for lo := range w {
			for n := 1; n <= w-lo; n++ {
				id := s.extract(x, lo, n)
				for lo := range n {
					s.extract(id, lo, 1)
					s.extract(id, lo, n-lo)
				}
			}
		}
		s.askAll()
		s.holdsAll()
	}
	s := newSheet(t)
	x := s.variable(64, 0)
	lowest, highest, whole := s.extract(x, 0, 1), s.extract(x, 63, 1), s.extract(x, 0, 64)
	middle := s.extract(x, 31, 2)
	inner := s.extract(s.extract(x, 8, 48), 40, 8)
	s.askAll()
	for _, v := range words(64) {
		s.hasWord(lowest, v&1, v)
		s.hasWord(highest, v>>63, v)
		s.hasWord(whole, v, v)
		s.hasWord(middle, v>>31&3, v)
		s.hasWord(inner, v>>48&255, v)
	}
}

// Bits of terms that stand above one another: of the upper, of the lower, and
// over the place where they meet.
func TestExtractsOfConcats(t *testing.T) {
	s := newSheet(t)
	x, y := s.variable(3, 0), s.variable(4, 1)
	both, turned := s.concat(x, y), s.concat(y, x)
	for _, id := range []int{both, turned, s.concat(s.extract(both, 2, 3), s.extract(turned, 0, 2))} {
		for lo := range s.d.Width(id) {
			for n := 1; n <= s.d.Width(id)-lo; n++ {
				s.extract(id, lo, n)
			}
		}
	}
	s.askAll()
	s.holdsAll()
	s.hasWord(both, 0x5a, 5, 10)
	s.hasWord(turned, 0x55, 5, 10)
	s.hasWord(s.extract(both, 4, 3), 5, 5, 10)
	s.hasWord(s.extract(both, 0, 4), 10, 5, 10)
	s.hasWord(s.extract(both, 3, 2), 3, 5, 10)
}

// Terms that have 64 bits together: of two, of many, and of a bit each.
func TestConcatsOf64Bits(t *testing.T) {
	s := newSheet(t)
	for w := 1; w < 64; w++ {
		x, y := s.variable(w, w), s.variable(64-w, 64+w)
		id := s.concat(x, y)
		s.ask(id)
	}
	r := rand.New(rand.NewSource(64))
	for range 20 {
		env := make([]uint64, 128)
		for i := range env {
			env[i] = r.Uint64()
		}
		s.holds(env...)
	}
	bits := newSheet(t)
	one := bits.variable(1, 0)
	for i := 1; i < 64; i++ {
		one = bits.concat(bits.variable(1, i), one)
	}
	bits.ask(one)
	for _, x := range words(64) {
		env := make([]uint64, 64)
		for i := range env {
			env[i] = x >> i & 1
		}
		bits.hasWord(one, x, env...)
	}
}

// By one bit and to 64, with the sign set and not, of variables and of words.
func TestExtensions(t *testing.T) {
	for _, w := range []int{1, 2, 7, 8, 31, 32, 62, 63} {
		s := newSheet(t)
		x := s.variable(w, 0)
		next, far := s.widen(x, w+1), s.widen(x, 64)
		nextSigned, farSigned := s.widenSigned(x, w+1), s.widenSigned(x, 64)
		for _, v := range words(w) {
			s.widen(s.word(w, v), 64)
			s.widenSigned(s.word(w, v), w+1)
			s.widenSigned(s.word(w, v), 64)
		}
		if w < 63 {
			// Of both kinds, one upon the other.
			s.widenSigned(s.widen(x, w+1), 64)
			s.widen(s.widenSigned(x, w+1), 64)
			s.widenSigned(nextSigned, 64)
		}
		s.askAll()
		for _, v := range words(w) {
			sign := -(v >> (w - 1)) << w
			s.hasWord(next, v, v)
			s.hasWord(far, v, v)
			s.hasWord(nextSigned, v|sign&most(w+1), v)
			s.hasWord(farSigned, v|sign, v)
		}
	}
}

// To the width that it has, a term is itself.
func TestExtensionByNothing(t *testing.T) {
	s := newSheet(t)
	x := s.variable(9, 4)
	was := s.row(x)
	for _, id := range []int{s.widen(x, 9), s.widenSigned(x, 9)} {
		if row := s.row(id); !slices.Equal(row, was) {
			t.Errorf("the row is %v, and was %v", row, was)
		}
	}
}

// Of either truth, of a truth that is a word, of what is compared, and with the
// same term twice.
func TestChoices(t *testing.T) {
	for _, w := range []int{1, 2, 3} {
		s := newSheet(t)
		c, x, y := s.variable(1, 0), s.variable(w, 1), s.variable(w, 2)
		yes, no := s.word(1, 1), s.word(1, 0)
		either, same := s.ite(c, x, y), s.ite(c, x, x)
		first, second := s.ite(yes, x, y), s.ite(no, x, y)
		s.ite(s.binary(api.OpUlt, x, y), x, y)
		s.ite(s.extract(x, w-1, 1), s.unary(api.OpNeg, x), x)
		s.ite(s.unary(api.OpNot, c), either, s.ite(c, y, same))
		s.ite(c, s.word(w, most(w)), s.word(w, 0))
		s.ite(c, x, s.word(w, 1))
		s.ite(c, c, no)
		s.ite(c, yes, c)
		s.askAll()
		s.holdsAll()
		for _, v := range words(w) {
			for _, u := range words(w) {
				s.hasWord(either, u, 0, v, u)
				s.hasWord(either, v, 1, v, u)
				s.hasWord(same, v, 0, v, u)
				s.hasWord(same, v, 1, v, u)
				s.hasWord(first, v, 0, v, u)
				s.hasWord(second, u, 1, v, u)
			}
		}
	}
	s := newSheet(t)
	c, x, y := s.variable(1, 9), s.variable(64, 1), s.variable(64, 0)
	id := s.ite(c, x, y)
	s.ask(id)
	for _, v := range words(64) {
		for truth := range uint64(2) {
			env := make([]uint64, 10)
			env[0], env[1], env[9] = ^v, v, truth
			s.hasWord(id, v^(truth-1), env...)
		}
	}
}

// Terms of terms.

// chain makes terms upon one another, as many as there may be.
func (s *sheet) chain(first int, next func(id int) int) int {
	s.t.Helper()
	for s.d.Len() < api.MaxTerms {
		first = next(first)
	}
	return first
}

// As deep as terms may be, asked for at once, and then each that they are made
// of.
func TestTheDeepest(t *testing.T) {
	for _, next := range []func(s *sheet, x int) func(id int) int{
		func(s *sheet, x int) func(id int) int { return func(id int) int { return s.binary(api.OpAdd, id, x) } },
		func(s *sheet, x int) func(id int) int { return func(id int) int { return s.binary(api.OpXor, x, id) } },
		func(s *sheet, x int) func(id int) int { return func(id int) int { return s.unary(api.OpNot, id) } },
		func(s *sheet, x int) func(id int) int { return func(id int) int { return s.binary(api.OpSub, id, id) } },
	} {
		s := newSheet(t)
		x := s.variable(2, 5)
		last := s.chain(s.word(2, 1), next(s, x))
		s.ask(last)
		s.holdsAll()
		for id := range s.d.Len() {
			row, e := s.b.Bits(id)
			if e != api.OK || len(row) != 2 {
				t.Fatalf("Bits(%d) = %v, %d", id, row, e)
			}
		}
	}
}

// One term that stands in many, twice in each: what it is made of is made once,
// or there would be no end.
func TestTermsThatStandInMany(t *testing.T) {
	s := newSheet(t)
	x := s.variable(3, 0)
	id := x
	for i := range 200 {
		a, b := s.binary(api.OpAdd, id, x), s.binary(api.OpXor, id, s.word(3, uint64(i)))
		id = s.ite(s.binary(api.OpUlt, a, b), a, b)
	}
	s.ask(id)
	if _, clauses := s.size(); clauses > 200*60 {
		t.Errorf("%d clauses of 200 terms", clauses)
	}
	s.holdsAll()
}

// What was made for one term is there for all that it stands in: for no more
// than themselves gates are made.
func TestPartsAreMadeOnce(t *testing.T) {
	s := newSheet(t)
	x, y := s.variable(16, 0), s.variable(16, 1)
	product := s.binary(api.OpMul, x, y)
	s.ask(product)
	vars, clauses := s.size()
	s.ask(x, y, product, s.extract(product, 3, 9), s.widen(product, 64), s.widenSigned(product, 17),
		s.concat(product, x), s.unary(api.OpNot, product))
	if v, c := s.size(); v != vars || c != clauses {
		t.Errorf("%d variables and %d clauses came of terms that need none", v-vars, c-clauses)
	}
	s.ask(s.binary(api.OpAnd, product, x))
	if v, c := s.size(); v > vars+16 || c > clauses+4*16 {
		t.Errorf("%d variables and %d clauses came of one And of 16 bits", v-vars, c-clauses)
	}
	s.holds(300, 77)
}

// Parts ahead of what is made of them, behind it, and in all orders between.
func TestAllOrders(t *testing.T) {
	var orders [][]int
	var put func(order, left []int)
	put = func(order, left []int) {
		if len(left) == 0 {
			orders = append(orders, slices.Clone(order))
		}
		for i := range left {
			put(append(order, left[i]), slices.Delete(slices.Clone(left), i, i+1))
		}
	}
	put(nil, []int{0, 1, 2, 3, 4, 5, 6})
	for _, order := range orders {
		s := newSheet(t)
		x, y := s.variable(2, 8), s.variable(2, 2)
		sum := s.binary(api.OpAdd, x, y)
		is := s.binary(api.OpUlt, sum, x)
		either := s.ite(is, sum, y)
		wide := s.concat(either, is)
		s.binary(api.OpSub, wide, s.widen(x, 3))
		for _, id := range order {
			s.ask(id)
			s.inputs()
		}
		s.holds(0, 0, 3, 0, 0, 0, 0, 0, 2)
		s.holds(0, 0, 1, 0, 0, 0, 0, 0, 1)
	}
}

// Asked for once more, also with others between, and with those that it is part
// of.
func TestTheSameTermHasTheSameRow(t *testing.T) {
	s := all(t, 6)
	s.askAll()
	vars, clauses := s.size()
	for _, id := range rand.New(rand.NewSource(5)).Perm(s.d.Len()) {
		s.ask(id, id)
	}
	s.askAll()
	if v, c := s.size(); v != vars || c != clauses {
		t.Errorf("of terms that were there came %d variables and %d clauses", v-vars, c-clauses)
	}
	s.holds(at3(1, 40, 9)...)
}

// Terms that are made behind New, and between two calls, of those that have
// rows and of others.
func TestTermsThatComeLater(t *testing.T) {
	s := newSheet(t)
	if l := s.b.Inputs(); s.d.Len() != 0 || len(l) != 0 {
		t.Fatalf("of no terms Inputs are %v", l)
	}
	x := s.variable(8, 6)
	s.ask(x)
	s.holds(0, 0, 0, 0, 0, 0, 200)
	sum := s.binary(api.OpAdd, x, x)
	y := s.variable(8, 1)
	s.ask(sum)
	s.inputs()
	s.hasWord(sum, 144, 0, 0, 0, 0, 0, 0, 200)
	product := s.binary(api.OpMul, sum, y)
	s.ask(product)
	s.hasWord(product, 176, 0, 3, 0, 0, 0, 0, 200)
	s.ask(s.binary(api.OpEq, product, sum), y, sum, x)
	s.holds(0, 3, 0, 0, 0, 0, 200)
}

// None.

// numbers are such that are no term's: below 0, from as many as there are on,
// and as great and little as an int may be.
func numbers(d *term.Dag) []int {
	n := d.Len()
	l := []int{-1, -2, -3, -64, -65536, math.MinInt32, math.MinInt / 2, math.MinInt + 1, math.MinInt,
		n, n + 1, n + 2, 2*n + 1, n + 64, api.MaxTerms, api.MaxTerms + 1, math.MaxInt32, 1 << 32, math.MaxInt / 2, math.MaxInt - 1, math.MaxInt}
	for i := range min(n, 3) {
		l = append(l, i+1<<32, i-1<<32, i+1<<16, math.MinInt+i, ^i)
	}
	return l
}

// isNone asks that the number of no term has no row, and that nothing came of
// it.
func (s *sheet) isNone(id int) {
	s.t.Helper()
	vars, clauses := s.size()
	was := nodes(s.d)
	row, e := s.b.Bits(id)
	if e != api.ErrTerm || len(row) != 0 {
		s.t.Fatalf("Bits(%d) = %v, %d, of %d terms", id, row, e, s.d.Len())
	}
	if v, c := s.size(); v != vars || c != clauses || !slices.Equal(nodes(s.d), was) {
		s.t.Fatalf("Bits(%d) told that there is no such term, and yet made %d variables, %d clauses, %d terms", id, v-vars, c-clauses, s.d.Len()-len(was))
	}
	s.inputs()
}

func TestNumbersOfNoTerm(t *testing.T) {
	for size := range 5 {
		s := newSheet(t)
		for i := range size {
			s.variable(4, 10*i)
		}
		for range 2 {
			for _, id := range numbers(s.d) {
				s.isNone(id)
			}
			s.askAll()
		}
		s.holds(1, 2, 3)
	}
	s := all(t, 3)
	for _, id := range numbers(s.d) {
		s.isNone(id)
	}
	s.askAll()
	for _, id := range numbers(s.d) {
		s.isNone(id)
	}
	s.holdsAll()
}

// A number that was none and is a term later.
func TestTheNextNumber(t *testing.T) {
	s := newSheet(t)
	s.isNone(0)
	x := s.variable(5, 3)
	s.ask(0)
	s.isNone(1)
	s.isNone(2)
	for id := 1; id < 40; id++ {
		s.isNone(id)
		x = s.binary(api.OpAdd, x, s.d.Len()-1)
		if id%2 == 1 {
			s.ask(id)
		}
		s.isNone(id + 1)
	}
	s.askAll()
	s.holds(0, 0, 0, 21)
}

// Terms of which there may be none have no rows.
func TestNoTerms(t *testing.T) {
	for _, d := range []*term.Dag{term.New(0), term.New(-1), {}} {
		g := gate.New()
		b := New(d, g)
		if b == nil {
			t.Fatal("New is nil of no terms")
		}
		for _, id := range numbers(d) {
			if row, e := b.Bits(id); e != api.ErrTerm || len(row) != 0 {
				t.Errorf("Bits(%d) = %v, %d", id, row, e)
			}
		}
		if g.Vars() != 1 || len(g.Clauses()) != 1 || len(b.Inputs()) != 0 || len(b.Input(0)) != 0 {
			t.Error("of no terms something was made")
		}
	}
}

// The last of as many terms as there may be, and none behind it.
func TestTheGreatestNumber(t *testing.T) {
	s := newSheet(t)
	x := s.variable(1, 0)
	for s.d.Len() < api.MaxTerms {
		s.is(s.d.Const(64, uint64(s.d.Len())))
	}
	s.isNone(api.MaxTerms)
	s.ask(api.MaxTerms-1, x)
	s.isNone(api.MaxTerms)
	s.holds(1)
}

// isNil asks of a blaster that is none that it tells nothing.
func isNil(t *testing.T, name string, b *Blaster) {
	t.Helper()
	if b != nil {
		t.Fatalf("%s: New told a blaster", name)
	}
	for _, i := range []int{0, 1, 2, 7, 255, 256, -1, math.MaxInt32, math.MinInt, math.MaxInt} {
		if row, e := b.Bits(i); e != api.ErrTerm || len(row) != 0 {
			t.Errorf("%s: Bits(%d) = %v, %d", name, i, row, e)
		}
		if row := b.Input(i); len(row) != 0 {
			t.Errorf("%s: Input(%d) = %v", name, i, row)
		}
		if l := b.Inputs(); len(l) != 0 {
			t.Errorf("%s: Inputs() = %v", name, l)
		}
	}
}

func TestNil(t *testing.T) {
	d, g := term.New(5), gate.New()
	d.Var(8, 0)
	isNil(t, "nil terms", New(nil, g))
	isNil(t, "nil gates", New(d, nil))
	isNil(t, "both nil", New(nil, nil))
	isNil(t, "none", nil)
	if d.Len() != 1 || g.Vars() != 1 || len(g.Clauses()) != 1 {
		t.Error("New of nil made something")
	}
	if New(d, g) == nil {
		t.Error("New of terms and gates is nil")
	}
	if d.Len() != 1 || g.Vars() != 1 || len(g.Clauses()) != 1 {
		t.Error("New made something")
	}
}

// Gates and blasters that New did not make: whatever they tell, there is no
// panic.
func TestNotMadeByNew(t *testing.T) {
	for _, g := range []*gate.Gates{{}, new(gate.Gates)} {
		d := all(t, 3).d
		b := New(d, g)
		for id := range d.Len() {
			b.Bits(id)
		}
		b.Input(0)
		b.Inputs()
	}
	b := &Blaster{}
	if row, e := b.Bits(0); e != api.ErrTerm || len(row) != 0 {
		t.Errorf("Bits(0) = %v, %d", row, e)
	}
	if len(b.Input(0)) != 0 || len(b.Inputs()) != 0 {
		t.Error("it has Inputs")
	}
}

// Inputs.

// Of variables that there are none has a row ahead of the first call, of a
// constant none behind it, and then those that terms hang on, and no others.
func TestInputs(t *testing.T) {
	s := newSheet(t)
	five := s.word(8, 5)
	ids := map[int]int{}
	for _, i := range []int{200, 3, 255, 0, 77, 4} {
		ids[i] = s.variable(8, i)
	}
	first, second := s.binary(api.OpAdd, ids[77], five), s.binary(api.OpMul, ids[3], ids[200])
	third := s.ite(s.binary(api.OpUlt, ids[255], ids[3]), first, ids[0])
	has := func(want ...int) {
		t.Helper()
		s.inputs()
		if l := s.b.Inputs(); !slices.Equal(l, want) {
			t.Fatalf("Inputs() = %v, want %v", l, want)
		}
	}
	has()
	s.ask(five)
	has()
	s.ask(first)
	has(77)
	s.ask(ids[77], first, five)
	has(77)
	s.ask(second)
	has(3, 77, 200)
	s.ask(third)
	has(0, 3, 77, 200, 255)
	s.ask(ids[200], ids[3], third)
	has(0, 3, 77, 200, 255)
	s.isNone(-1)
	s.isNone(s.d.Len())
	has(0, 3, 77, 200, 255)
	s.ask(ids[4])
	has(0, 3, 4, 77, 200, 255)
	s.holds(1, 2, 3, 4, 5)
}

// All variables that there may be, asked for from both ends.
func TestAllInputs(t *testing.T) {
	s := newSheet(t)
	for i := range api.MaxInputs {
		s.variable(1+i%64, i)
	}
	for i := range api.MaxInputs / 2 {
		s.ask(api.MaxInputs-1-i, i)
	}
	s.inputs()
	var want []int
	for i := range api.MaxInputs {
		want = append(want, i)
	}
	if l := s.b.Inputs(); !slices.Equal(l, want) {
		t.Errorf("Inputs() = %v", l)
	}
	r := rand.New(rand.NewSource(9))
	for range 5 {
		env := make([]uint64, api.MaxInputs)
		for i := range env {
			env[i] = r.Uint64()
		}
		s.holds(env...)
	}
}

func TestNoInput(t *testing.T) {
	s := newSheet(t)
	x := s.variable(8, 7)
	s.variable(8, 9)
	wrong := []int{-1, -7, 0, 1, 6, 8, 9, 255, 256, 257, 7 + 256, 7 + 1<<32, 7 - 1<<32, ^7, 7 - 1<<63, math.MaxInt32, math.MinInt32, math.MaxInt, math.MinInt}
	none := func() {
		t.Helper()
		for _, i := range wrong {
			if row := s.b.Input(i); len(row) != 0 {
				t.Errorf("Input(%d) = %v", i, row)
			}
		}
	}
	none()
	if row := s.b.Input(7); len(row) != 0 {
		t.Errorf("Input(7) = %v, and nothing was asked for", row)
	}
	if v, c := s.size(); v != 1 || c != 1 {
		t.Errorf("Input made %d variables", v-1)
	}
	s.ask(x)
	vars, clauses := s.size()
	none()
	if row := s.b.Input(7); len(row) != 8 {
		t.Errorf("Input(7) = %v", row)
	}
	if v, c := s.size(); v != vars || c != clauses {
		t.Error("Input made gates")
	}
}

// A term hangs on the variables of its text, also where none of them plays a
// part in its word.
func TestInputsByText(t *testing.T) {
	const w = 4
	for name, of := range map[string]func(s *sheet, x, y int) int{
		"a choice that is never taken":      func(s *sheet, x, y int) int { return s.ite(s.word(1, 1), x, y) },
		"a choice that is always taken":     func(s *sheet, x, y int) int { return s.ite(s.word(1, 0), x, y) },
		"a truth that plays no part":        func(s *sheet, x, y int) int { return s.ite(s.extract(x, 0, 1), y, y) },
		"and 0":                             func(s *sheet, x, y int) int { return s.binary(api.OpAnd, s.binary(api.OpAdd, x, y), s.word(w, 0)) },
		"or all bits":                       func(s *sheet, x, y int) int { return s.binary(api.OpOr, s.word(w, 15), s.binary(api.OpSub, x, y)) },
		"times 0":                           func(s *sheet, x, y int) int { return s.binary(api.OpMul, s.binary(api.OpXor, x, y), s.word(w, 0)) },
		"0 times":                           func(s *sheet, x, y int) int { return s.binary(api.OpMul, s.word(w, 0), s.binary(api.OpXor, x, y)) },
		"less itself":                       func(s *sheet, x, y int) int { a := s.binary(api.OpAnd, x, y); return s.binary(api.OpSub, a, a) },
		"the same as itself":                func(s *sheet, x, y int) int { a := s.concat(x, y); return s.binary(api.OpEq, a, a) },
		"less than 0":                       func(s *sheet, x, y int) int { return s.binary(api.OpUlt, s.concat(y, x), s.word(2*w, 0)) },
		"moved away":                        func(s *sheet, x, y int) int { return s.binary(api.OpShl, s.binary(api.OpOr, x, y), s.word(w, 9)) },
		"0 moved":                           func(s *sheet, x, y int) int { return s.binary(api.OpShr, s.word(w, 0), s.binary(api.OpOr, x, y)) },
		"by 0":                              func(s *sheet, x, y int) int { return s.binary(api.OpUdiv, s.binary(api.OpAdd, x, y), s.word(w, 0)) },
		"the rest by 1":                     func(s *sheet, x, y int) int { return s.binary(api.OpUrem, s.binary(api.OpAdd, x, y), s.word(w, 1)) },
		"the lower part":                    func(s *sheet, x, y int) int { return s.extract(s.concat(x, y), 0, w) },
		"the upper part":                    func(s *sheet, x, y int) int { return s.extract(s.concat(x, y), w, w) },
		"noughts above":                     func(s *sheet, x, y int) int { return s.extract(s.widen(s.concat(x, y), 20), 10, 7) },
		"some of it taken, deep":            func(s *sheet, x, y int) int { return s.extract(s.extract(s.concat(x, y), 1, 5), 0, 1) },
		"what is within plays no part":      func(s *sheet, x, y int) int { return s.binary(api.OpAnd, x, s.ite(s.word(1, 1), s.word(w, 3), y)) },
		"both, and they do play their part": func(s *sheet, x, y int) int { return s.binary(api.OpSlt, y, x) },
	} {
		s := newSheet(t)
		s.variable(w, 40)
		x, y := s.variable(w, 90), s.variable(w, 12)
		s.ask(of(s, x, y))
		s.inputs()
		if l := s.b.Inputs(); !slices.Equal(l, []int{12, 90}) {
			t.Errorf("%s: Inputs() = %v", name, l)
		}
		s.holdsAll()
	}
}

// Rules that hold everywhere.

// What was told is memory of its own: who writes to it changes nothing of what
// is told later, and nothing of the gates.
func TestAnswersAreNew(t *testing.T) {
	s, other := all(t, 5), all(t, 5)
	other.askAll()
	was := slices.Clone(other.told)
	spoil := func(l []int) {
		for i := range l {
			l[i] = -9
		}
		for i := range cap(l) - len(l) {
			l[:cap(l)][len(l)+i] = -9
		}
	}
	for range 3 {
		for _, a := range was {
			row, e := s.b.Bits(a.id)
			if e != api.OK || !slices.Equal(row, a.was) {
				t.Fatalf("Bits(%d) = %v, %d, and %v where nobody writes", a.id, row, e, a.was)
			}
			spoil(row)
			for _, i := range other.b.Inputs() {
				if row := s.b.Input(i); len(row) > 0 {
					if !slices.Equal(row, other.b.Input(i)) {
						t.Fatalf("Input(%d) = %v, and %v where nobody writes", i, row, other.b.Input(i))
					}
					spoil(row)
				}
			}
			spoil(s.b.Inputs())
		}
	}
	if l := s.b.Inputs(); !slices.Equal(l, []int{0, 3, 200}) {
		t.Errorf("Inputs() = %v", l)
	}
	if !sameGates(s.g, other.g) {
		t.Error("the gates are others than where nobody writes")
	}
}

func sameGates(a, b *gate.Gates) bool {
	return a.Vars() == b.Vars() && slices.EqualFunc(a.Clauses(), b.Clauses(), func(c, d []int) bool { return slices.Equal(c, d) })
}

// No two answers share memory.
func TestAnswersAreApart(t *testing.T) {
	s := all(t, 4)
	s.askAll()
	s.askAll()
	for i, a := range s.told {
		for j := range a.row {
			a.row[j] = -i - 1
		}
	}
	for i, a := range s.told {
		for _, x := range append(slices.Clone(a.row), append(a.row, -9)[:len(a.row)]...) {
			if x != -i-1 {
				t.Fatalf("the row of the term %d, told as the call %d, shares memory", a.id, i)
			}
		}
	}
	for i := range s.vars {
		for _, x := range s.b.Input(i) {
			if x < 0 {
				t.Fatalf("Input(%d) shares memory with a row", i)
			}
		}
	}
}

// Terms are as they were behind each call.
func TestTermsStayAsTheyAre(t *testing.T) {
	s := all(t, 7)
	was := nodes(s.d)
	for id := range s.d.Len() {
		s.ask(id)
		s.b.Bits(-id - 1)
		s.b.Input(id)
		s.b.Inputs()
		if !slices.Equal(nodes(s.d), was) {
			t.Fatalf("Bits(%d) left other terms", id)
		}
	}
	if x, e := s.d.Var(7, 0); e != api.OK || s.node(x) != was[x] {
		t.Error("a term is not found any more")
	}
}

// What the gates had ahead stays as it is, and Bits alone adds to it.
func TestGatesStay(t *testing.T) {
	s := all(t, 4)
	var ahead [][]int
	for id := range s.d.Len() {
		s.ask(id)
		l := s.g.Clauses()
		for i, c := range ahead {
			if !slices.Equal(l[i], c) {
				t.Fatalf("Bits(%d) left the clause %v of %v", id, l[i], c)
			}
		}
		s.inputs()
		if len(s.g.Clauses()) != len(l) {
			t.Fatal("Inputs made clauses")
		}
		for _, c := range l[len(ahead):] {
			ahead = append(ahead, slices.Clone(c))
		}
	}
}

// Gates that others make of the same gates between two calls, of rows that
// were told and of Inputs of their own, change nothing of what is meant.
func TestOthersMakeGatesBetween(t *testing.T) {
	r := rand.New(rand.NewSource(3))
	s := all(t, 3)
	own := []int{s.g.Input()}
	for _, id := range r.Perm(s.d.Len()) {
		s.ask(id)
		a := s.told[r.Intn(len(s.told))].row
		own = append(own, s.g.Input())
		x := own[r.Intn(len(own))]
		for _, y := range a {
			x = s.g.Maj(x, lit.Not(y), s.g.Ite(y, s.g.Input(), own[r.Intn(len(own))]))
		}
		arith.Add(s.g, a, a)
		own = append(own, x)
	}
	s.askAll()
	s.holdsAll()
}

// Gates that had Inputs and clauses ahead of New.
func TestGatesThatWereThere(t *testing.T) {
	g := gate.New()
	for range 10 {
		x := g.Input()
		g.Xor(x, g.And(lit.Not(x), g.Input()))
	}
	was := g.Vars()
	s := sheetOf(t, all(t, 3).d, g)
	if g.Vars() != was {
		t.Error("New made gates")
	}
	s.askAll()
	for i, row := range s.inputs() {
		if lit.Var(slices.Min(row)) < was {
			t.Errorf("Input(%d) = %v, of which some were there ahead", i, row)
		}
	}
	s.holdsAll()
}

// Blasters of the same terms, of the same gates, and of both, have rows of
// their own.
func TestBlastersBesideOneAnother(t *testing.T) {
	first := all(t, 3)
	sameBoth := sheetOf(t, first.d, first.g)
	sameTerms := sheetOf(t, first.d, gate.New())
	sameGates := sheetOf(t, all(t, 2).d, first.g)
	sheets := []*sheet{first, sameBoth, sameTerms, sameGates}
	for id := range first.d.Len() {
		for _, s := range sheets {
			s.ask(id % s.d.Len())
			s.inputs()
		}
	}
	for _, s := range sheets {
		s.holdsAll()
	}
	for i := range first.vars {
		for _, x := range first.b.Input(i) {
			if slices.Contains(sameBoth.b.Input(i), x) {
				t.Errorf("two blasters share %d, of the variable %d", x, i)
			}
		}
	}
	// The words of the one's variables say nothing of the other's.
	set := first.b.Input(0)
	for _, x := range sameBoth.b.Input(0) {
		set = append(set, lit.Not(x))
	}
	if _, ok := unit.Close(first.g.Clauses(), set); !ok {
		t.Error("the variables of two blasters are one")
	}
}

// record asks for terms by chance, with calls between that make none, and tells
// all that was told.
func record(t *testing.T, seed int64) ([][]int, *gate.Gates) {
	r := rand.New(rand.NewSource(seed))
	s := newSheet(t)
	w := &growth{[]int{1, 1, 2, 4, 8, 33}, []int{0, 1, 5, 200}, 3}
	var told [][]int
	for size := 5; size < 60; size += 5 {
		w.grow(r, s.d, size)
		for range 4 {
			id := r.Intn(s.d.Len() + 1)
			row, e := s.b.Bits(id)
			told = append(told, row, []int{int(e)}, s.b.Inputs(), s.b.Input(r.Intn(6)))
		}
		s.g.And(s.g.Input(), r.Intn(2*s.g.Vars()))
	}
	return told, s.g
}

// The same calls in the same order tell the same again, row by row.
func TestTheSameCallsTellTheSame(t *testing.T) {
	for seed := range int64(40) {
		told, g := record(t, seed)
		for range 3 {
			again, h := record(t, seed)
			if !slices.EqualFunc(told, again, func(a, b []int) bool { return slices.Equal(a, b) }) || !sameGates(g, h) {
				t.Fatalf("the same calls told\n%v, then\n%v", told, again)
			}
		}
	}
}

// Calls that make nothing have no part in what others tell.
func TestWrongCallsLeaveNothing(t *testing.T) {
	s, other := all(t, 4), all(t, 4)
	for id := range s.d.Len() {
		row, e := other.b.Bits(id)
		for _, wrong := range numbers(s.d) {
			s.b.Bits(wrong)
			s.b.Input(wrong)
		}
		s.b.Inputs()
		if told, f := s.b.Bits(id); !slices.Equal(told, row) || e != f {
			t.Fatalf("Bits(%d) = %v, %d, and with wrong calls between %v, %d", id, row, e, told, f)
		}
	}
	if !sameGates(s.g, other.g) {
		t.Error("wrong calls made gates")
	}
}

// At the same time, each with terms and gates of its own, or of the same terms.
func TestAtTheSameTime(t *testing.T) {
	d := all(t, 6).d
	want := sheetOf(t, d, gate.New())
	want.askAll()
	var group sync.WaitGroup
	for worker := range 8 {
		group.Go(func() {
			terms := d
			if worker%2 == 0 {
				terms = all(t, 6).d
			}
			s := sheetOf(t, terms, gate.New())
			for i, a := range want.told {
				row, e := s.b.Bits(a.id)
				if e != api.OK || !slices.Equal(row, a.was) || len(s.b.Input(0)) != len(want.b.Input(0)) && i > 2 {
					t.Errorf("Bits(%d) = %v, %d, and alone %v", a.id, row, e, a.was)
				}
			}
			if !slices.Equal(s.b.Inputs(), want.b.Inputs()) || !sameGates(s.g, want.g) {
				t.Error("the gates are others than alone")
			}
		})
	}
	group.Wait()
}

// A solver.

// What always holds of terms, a solver finds no exception to.
func TestSolverFindsNoException(t *testing.T) {
	const w = 4
	s := newSheet(t)
	c, x, y := s.variable(1, 2), s.variable(w, 0), s.variable(w, 1)
	do := func(op, a, b int) int { return s.binary(op, a, b) }
	same := func(a, b int) int { return do(api.OpEq, a, b) }
	not := func(a int) int { return s.unary(api.OpNot, a) }
	for name, is := range map[string]int{
		"sums are the same either way":         same(do(api.OpAdd, x, y), do(api.OpAdd, y, x)),
		"a difference and what was taken":      same(do(api.OpAdd, do(api.OpSub, x, y), y), x),
		"less it is all turned, and 1":         same(s.unary(api.OpNeg, x), do(api.OpAdd, not(x), s.word(w, 1))),
		"quotient, rest and product":           same(do(api.OpAdd, do(api.OpMul, do(api.OpUdiv, x, y), y), do(api.OpUrem, x, y)), x),
		"the rest is less, or it is by 0":      do(api.OpOr, do(api.OpUlt, do(api.OpUrem, x, y), y), same(y, s.word(w, 0))),
		"xor is or, less and":                  same(do(api.OpXor, x, y), do(api.OpSub, do(api.OpOr, x, y), do(api.OpAnd, x, y))),
		"less, the same or greater":            do(api.OpOr, same(x, y), do(api.OpXor, do(api.OpUlt, x, y), do(api.OpUlt, y, x))),
		"signed is as wider ones are":          same(do(api.OpSlt, x, y), do(api.OpSlt, s.widenSigned(x, 7), s.widenSigned(y, 7))),
		"no sign, where noughts are above":     same(do(api.OpUlt, x, y), do(api.OpSlt, s.widen(x, w+1), s.widen(y, w+1))),
		"both parts together are the whole":    same(s.concat(s.extract(x, 1, w-1), s.extract(x, 0, 1)), x),
		"up by 1 is doubled":                   same(do(api.OpShl, x, s.word(w, 1)), do(api.OpAdd, x, x)),
		"down by all is the sign, all over":    same(do(api.OpSar, x, s.word(w, most(w))), s.widenSigned(s.extract(x, w-1, 1), w)),
		"down is as the wider one":             same(do(api.OpShr, x, y), s.extract(do(api.OpSar, s.widen(x, 2*w), s.widen(y, 2*w)), 0, w)),
		"a choice turned is one of turned":     same(not(s.ite(c, x, y)), s.ite(c, not(x), not(y))),
		"a choice is either":                   do(api.OpOr, same(s.ite(c, x, y), x), same(s.ite(c, x, y), y)),
		"products are the lower half of wider": same(do(api.OpMul, x, y), s.extract(do(api.OpMul, s.widenSigned(x, 2*w), s.widen(y, 2*w)), 0, w)),
	} {
		row := s.row(is)
		res, e := sat.Solve(s.g.Vars(), append(s.g.Clauses(), []int{lit.Not(row[0])}), 200000)
		if e != api.OK || res.Status != api.Unsat {
			t.Errorf("%s: %d, %d", name, res.Status, e)
		}
	}
	s.holds(9, 5, 1)
}

// A solver finds words of variables: chapter 16 says that they are such.
func TestSolverFindsWords(t *testing.T) {
	const w = 8
	s := newSheet(t)
	x, y := s.variable(w, 30), s.variable(w, 4)
	product, quotient := s.binary(api.OpMul, x, y), s.binary(api.OpUdiv, x, y)
	for name, is := range map[string]int{
		"a product":          s.binary(api.OpEq, product, s.word(w, 77)),
		"a square":           s.binary(api.OpEq, s.binary(api.OpMul, x, x), s.word(w, 169)),
		"a quotient":         s.binary(api.OpAnd, s.binary(api.OpEq, quotient, s.word(w, 9)), s.binary(api.OpUlt, s.word(w, 20), y)),
		"a sum past the end": s.binary(api.OpUlt, s.binary(api.OpAdd, x, y), x),
		"a sign":             s.binary(api.OpAnd, s.binary(api.OpSlt, x, y), s.binary(api.OpUlt, y, x)),
		"bits of both":       s.binary(api.OpEq, s.extract(s.concat(x, y), 5, 6), s.word(6, 44)),
		"a move":             s.binary(api.OpEq, s.binary(api.OpSar, x, y), s.word(w, 250)),
	} {
		row := s.row(is)
		res, e := sat.Solve(s.g.Vars(), append(s.g.Clauses(), row), 100000)
		if e != api.OK || res.Status != api.Sat {
			t.Fatalf("%s: %d, %d", name, res.Status, e)
		}
		env := make([]uint64, api.MaxInputs)
		for i, row := range s.inputs() {
			for place, x := range row {
				if lit.Holds(x, res.Model) {
					env[i] |= 1 << place
				}
			}
		}
		if v, e := sem.Value(s.d, is, env); e != api.OK || v != 1 {
			t.Errorf("%s: where x is %d and y is %d it is %d, %d", name, env[30], env[4], v, e)
		}
		s.hasWord(is, 1, env...)
	}
}
