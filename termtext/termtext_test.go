package termtext

import (
	"math"
	"slices"
	"strings"
	"sync"
	"testing"

	"breakwater/api"
	"breakwater/term"
)

// far are numbers out to the ends of int.
var far = []int{math.MinInt, math.MinInt + 1, math.MinInt / 2, math.MinInt32, -api.MaxTerms, math.MaxInt32, 1 << 32,
	math.MaxInt / 2, math.MaxInt - 1, math.MaxInt}

// noTerms are numbers of none of d's terms.
func noTerms(d *term.Dag) []int {
	return append([]int{-1, -2, d.Len(), d.Len() + 1, d.Len() + 1000, api.MaxTerms, api.MaxTerms + 1}, far...)
}

func mask(w int) uint64 { return ^uint64(0) >> (64 - w) }

// must is the term that a call made.
func must(t *testing.T) func(int, api.Errno) int {
	return func(id int, e api.Errno) int {
		t.Helper()
		if e != api.OK {
			t.Fatalf("a term was not made: %d", e)
		}
		return id
	}
}

// nodes are all terms of d.
func nodes(d *term.Dag) []api.Node {
	var all []api.Node
	for id := range d.Len() {
		n, _ := d.Node(id)
		all = append(all, n)
	}
	return all
}

// shows asks for a text twice, and that the terms are as they were.
func shows(t *testing.T, d *term.Dag, id int, want string) {
	t.Helper()
	was := nodes(d)
	for range 2 {
		if s, e := Show(d, id); s != want || e != api.OK {
			t.Errorf("Show(%d) = %q, %d, want %q, %d", id, s, e, want, api.OK)
		}
	}
	if !slices.Equal(nodes(d), was) {
		t.Fatalf("Show(%d) changed the terms", id)
	}
}

// fails asks twice that there is no text, and that the terms are as they were.
func fails(t *testing.T, d *term.Dag, id int, want api.Errno) {
	t.Helper()
	was := nodes(d)
	for range 2 {
		if s, e := Show(d, id); s != "" || e != want {
			t.Errorf("Show(%d) = %q of %d bytes, %d, want none, %d", id, s, len(s), e, want)
		}
	}
	if !slices.Equal(nodes(d), was) {
		t.Fatalf("Show(%d) changed the terms", id)
	}
}

// Promise 18.1: Word.

func TestWord(t *testing.T) {
	words := map[int]string{
		1: "add", 2: "sub", 3: "mul", 4: "udiv", 5: "urem", 6: "and", 7: "or", 8: "xor",
		9: "shl", 10: "shr", 11: "sar", 12: "eq", 13: "ult", 14: "slt", 15: "not", 16: "neg",
		22: "ite", 23: "ext", 24: "cat", 25: "zext", 26: "sext",
	}
	if len(words) != 21 {
		t.Fatalf("%d words", len(words))
	}
	for op := -300; op <= 300; op++ {
		for range 2 {
			if s := Word(op); s != words[op] {
				t.Errorf("Word(%d) = %q, want %q", op, s, words[op])
			}
		}
	}
}

func TestNoWord(t *testing.T) {
	none := append([]int{0, -1, -12, -26, 17, 18, 19, 20, 21, 27, 28, 64, 1<<32 + 1, 1<<33 + 22, math.MinInt + 1, math.MinInt + 26}, far...)
	for _, op := range none {
		if s := Word(op); s != "" {
			t.Errorf("Word(%d) = %q", op, s)
		}
	}
}

// Promise 18.1: Show.

func TestExamples(t *testing.T) {
	d, ok := term.New(9), must(t)
	x, one := ok(d.Var(8, 0)), ok(d.Const(8, 1))
	shows(t, d, ok(d.Binary(api.OpAdd, x, one)), "(add x0:8 1:8)")
	shows(t, d, ok(d.Extract(x, 4, 4)), "(ext 4 4 x0:8)")
}

func TestConstants(t *testing.T) {
	d, ok := term.New(api.MaxTerms), must(t)
	for _, c := range []struct {
		w    int
		x    uint64
		want string
	}{
		{1, 0, "0:1"}, {1, 1, "1:1"}, {1, 2, "0:1"},
		{2, 3, "3:2"},
		{7, 99, "99:7"}, {7, 100, "100:7"},
		{8, 0, "0:8"}, {8, 1, "1:8"}, {8, 9, "9:8"}, {8, 10, "10:8"}, {8, 128, "128:8"}, {8, 255, "255:8"}, {8, 300, "44:8"},
		{9, 511, "511:9"}, {10, 1023, "1023:10"},
		{63, 0, "0:63"}, {63, 1, "1:63"}, {63, math.MaxInt64, "9223372036854775807:63"}, {63, math.MaxUint64, "9223372036854775807:63"},
		{64, 0, "0:64"}, {64, 1, "1:64"}, {64, math.MaxInt64, "9223372036854775807:64"}, {64, 1 << 63, "9223372036854775808:64"},
		{64, 10000000000000000000, "10000000000000000000:64"}, {64, math.MaxUint64, "18446744073709551615:64"},
	} {
		shows(t, d, ok(d.Const(c.w, c.x)), c.want)
	}
}

func TestVariables(t *testing.T) {
	for _, v := range []struct {
		w, i int
		want string
	}{
		{1, 0, "x0:1"}, {8, 0, "x0:8"}, {64, 0, "x0:64"},
		{1, 1, "x1:1"}, {2, 1, "x1:2"}, {63, 1, "x1:63"},
		{1, 9, "x9:1"}, {8, 9, "x9:8"}, {64, 9, "x9:64"},
		{1, 10, "x10:1"}, {8, 10, "x10:8"}, {64, 10, "x10:64"}, {9, 99, "x99:9"}, {10, 100, "x100:10"},
		{1, api.MaxInputs - 1, "x255:1"}, {8, api.MaxInputs - 1, "x255:8"}, {64, api.MaxInputs - 1, "x255:64"},
	} {
		d, ok := term.New(1), must(t)
		shows(t, d, ok(d.Var(v.w, v.i)), v.want)
	}
}

// A variable is told by its number, not by where it stands among the terms.
func TestVariablesNotInTheirOrder(t *testing.T) {
	d, ok := term.New(9), must(t)
	x, y, z := ok(d.Var(8, 7)), ok(d.Var(8, 3)), ok(d.Var(4, 200))
	shows(t, d, x, "x7:8")
	shows(t, d, y, "x3:8")
	shows(t, d, z, "x200:4")
	shows(t, d, ok(d.Binary(api.OpSub, y, x)), "(sub x3:8 x7:8)")
}

func TestUnary(t *testing.T) {
	d, ok := term.New(api.MaxTerms), must(t)
	x, k := ok(d.Var(8, 2)), ok(d.Const(64, math.MaxUint64))
	not, neg := ok(d.Unary(api.OpNot, x)), ok(d.Unary(api.OpNeg, x))
	shows(t, d, not, "(not x2:8)")
	shows(t, d, neg, "(neg x2:8)")
	shows(t, d, ok(d.Unary(api.OpNot, k)), "(not 18446744073709551615:64)")
	shows(t, d, ok(d.Unary(api.OpNeg, k)), "(neg 18446744073709551615:64)")
	shows(t, d, ok(d.Unary(api.OpNot, not)), "(not (not x2:8))")
	shows(t, d, ok(d.Unary(api.OpNot, neg)), "(not (neg x2:8))")
	shows(t, d, ok(d.Unary(api.OpNeg, ok(d.Binary(api.OpMul, x, not)))), "(neg (mul x2:8 (not x2:8)))")
}

// Of each operator of two its text: of variables, of constants, of both in
// either order, and of terms that are made of others.
func TestBinary(t *testing.T) {
	words := []string{"add", "sub", "mul", "udiv", "urem", "and", "or", "xor", "shl", "shr", "sar", "eq", "ult", "slt"}
	d, ok := term.New(api.MaxTerms), must(t)
	y, x := ok(d.Var(8, 12)), ok(d.Var(8, 3))
	k, l := ok(d.Const(8, 200)), ok(d.Const(8, 5))
	not, less := ok(d.Unary(api.OpNot, y)), ok(d.Binary(api.OpShl, x, l))
	for i, word := range words {
		for _, c := range []struct {
			a, b int
			want string
		}{
			{x, y, "(" + word + " x3:8 x12:8)"},
			{y, x, "(" + word + " x12:8 x3:8)"},
			{x, x, "(" + word + " x3:8 x3:8)"},
			{k, l, "(" + word + " 200:8 5:8)"},
			{l, k, "(" + word + " 5:8 200:8)"},
			{x, k, "(" + word + " x3:8 200:8)"},
			{k, x, "(" + word + " 200:8 x3:8)"},
			{not, l, "(" + word + " (not x12:8) 5:8)"},
			{l, not, "(" + word + " 5:8 (not x12:8))"},
			{not, less, "(" + word + " (not x12:8) (shl x3:8 5:8))"},
			{less, not, "(" + word + " (shl x3:8 5:8) (not x12:8))"},
		} {
			shows(t, d, ok(d.Binary(api.OpAdd+i, c.a, c.b)), c.want)
		}
	}
	if len(words) != api.OpSlt {
		t.Errorf("%d words of operators of two", len(words))
	}
}

// No width stands in what is made of terms, not even where it is not theirs.
func TestCompares(t *testing.T) {
	d, ok := term.New(api.MaxTerms), must(t)
	x, k := ok(d.Var(64, 0)), ok(d.Const(64, 7))
	c := ok(d.Binary(api.OpUlt, x, k))
	shows(t, d, c, "(ult x0:64 7:64)")
	shows(t, d, ok(d.Binary(api.OpEq, c, ok(d.Const(1, 1)))), "(eq (ult x0:64 7:64) 1:1)")
}

func TestIte(t *testing.T) {
	d, ok := term.New(api.MaxTerms), must(t)
	a, c, b := ok(d.Var(8, 1)), ok(d.Var(1, 0)), ok(d.Const(8, 9))
	truth := ok(d.Const(1, 1))
	sum, equal := ok(d.Binary(api.OpAdd, a, b)), ok(d.Binary(api.OpEq, a, b))
	first := ok(d.Ite(c, a, b))
	shows(t, d, first, "(ite x0:1 x1:8 9:8)")
	shows(t, d, ok(d.Ite(c, b, a)), "(ite x0:1 9:8 x1:8)")
	shows(t, d, ok(d.Ite(truth, b, sum)), "(ite 1:1 9:8 (add x1:8 9:8))")
	shows(t, d, ok(d.Ite(equal, sum, first)), "(ite (eq x1:8 9:8) (add x1:8 9:8) (ite x0:1 x1:8 9:8))")
	shows(t, d, ok(d.Ite(equal, c, truth)), "(ite (eq x1:8 9:8) x0:1 1:1)")
	shows(t, d, ok(d.Ite(c, c, c)), "(ite x0:1 x0:1 x0:1)")
	shows(t, d, ok(d.Ite(c, first, first)), "(ite x0:1 (ite x0:1 x1:8 9:8) (ite x0:1 x1:8 9:8))")
}

// Where the bits begin, how many there are, and then of what.
func TestExtract(t *testing.T) {
	d, ok := term.New(api.MaxTerms), must(t)
	x, y, k := ok(d.Var(64, 1)), ok(d.Var(8, 0)), ok(d.Const(8, 255))
	sum := ok(d.Binary(api.OpAdd, y, k))
	shows(t, d, ok(d.Extract(x, 0, 1)), "(ext 0 1 x1:64)")
	shows(t, d, ok(d.Extract(x, 1, 2)), "(ext 1 2 x1:64)")
	shows(t, d, ok(d.Extract(x, 63, 1)), "(ext 63 1 x1:64)")
	shows(t, d, ok(d.Extract(x, 10, 54)), "(ext 10 54 x1:64)")
	shows(t, d, ok(d.Extract(x, 54, 10)), "(ext 54 10 x1:64)")
	shows(t, d, ok(d.Extract(x, 0, 64)), "(ext 0 64 x1:64)")
	shows(t, d, ok(d.Extract(k, 3, 5)), "(ext 3 5 255:8)")
	shows(t, d, ok(d.Extract(sum, 4, 3)), "(ext 4 3 (add x0:8 255:8))")
	shows(t, d, ok(d.Extract(ok(d.Extract(x, 5, 40)), 7, 9)), "(ext 7 9 (ext 5 40 x1:64))")
}

func TestConcat(t *testing.T) {
	d, ok := term.New(api.MaxTerms), must(t)
	x, y, k := ok(d.Var(8, 1)), ok(d.Var(1, 0)), ok(d.Const(55, 1))
	both := ok(d.Concat(x, y))
	shows(t, d, both, "(cat x1:8 x0:1)")
	shows(t, d, ok(d.Concat(y, x)), "(cat x0:1 x1:8)")
	shows(t, d, ok(d.Concat(x, x)), "(cat x1:8 x1:8)")
	shows(t, d, ok(d.Concat(k, y)), "(cat 1:55 x0:1)")
	shows(t, d, ok(d.Concat(k, both)), "(cat 1:55 (cat x1:8 x0:1))")
	shows(t, d, ok(d.Concat(both, k)), "(cat (cat x1:8 x0:1) 1:55)")
	shows(t, d, ok(d.Concat(both, both)), "(cat (cat x1:8 x0:1) (cat x1:8 x0:1))")
}

func TestExtend(t *testing.T) {
	d, ok := term.New(api.MaxTerms), must(t)
	x, k, b := ok(d.Var(8, 0)), ok(d.Const(63, 6)), ok(d.Var(1, 4))
	not := ok(d.Unary(api.OpNot, x))
	shows(t, d, ok(d.Extend(x, 9, false)), "(zext 9 x0:8)")
	shows(t, d, ok(d.Extend(x, 9, true)), "(sext 9 x0:8)")
	shows(t, d, ok(d.Extend(x, 64, false)), "(zext 64 x0:8)")
	shows(t, d, ok(d.Extend(x, 64, true)), "(sext 64 x0:8)")
	shows(t, d, ok(d.Extend(k, 64, false)), "(zext 64 6:63)")
	shows(t, d, ok(d.Extend(k, 64, true)), "(sext 64 6:63)")
	shows(t, d, ok(d.Extend(b, 2, false)), "(zext 2 x4:1)")
	shows(t, d, ok(d.Extend(b, 2, true)), "(sext 2 x4:1)")
	shows(t, d, ok(d.Extend(not, 12, false)), "(zext 12 (not x0:8))")
	shows(t, d, ok(d.Extend(not, 12, true)), "(sext 12 (not x0:8))")
	shows(t, d, ok(d.Extend(ok(d.Extend(x, 16, true)), 32, false)), "(zext 32 (sext 16 x0:8))")
	// Of no more bits: the term itself.
	shows(t, d, ok(d.Extend(x, 8, true)), "x0:8")
}

// A term that is met twice is shown twice.
func TestMetTwice(t *testing.T) {
	d, ok := term.New(api.MaxTerms), must(t)
	x := ok(d.Var(8, 0))
	sum := ok(d.Binary(api.OpAdd, x, x))
	twice := ok(d.Binary(api.OpMul, sum, sum))
	shows(t, d, sum, "(add x0:8 x0:8)")
	shows(t, d, twice, "(mul (add x0:8 x0:8) (add x0:8 x0:8))")
	shows(t, d, ok(d.Binary(api.OpXor, twice, sum)), "(xor (mul (add x0:8 x0:8) (add x0:8 x0:8)) (add x0:8 x0:8))")
}

// Promise 18.1: ErrTerm.

func TestNone(t *testing.T) {
	d, ok := term.New(5), must(t)
	for _, id := range noTerms(d) {
		fails(t, d, id, api.ErrTerm)
	}
	x := ok(d.Var(8, 0))
	fails(t, d, 1, api.ErrTerm)
	not := ok(d.Unary(api.OpNot, x))
	for _, id := range noTerms(d) {
		fails(t, d, id, api.ErrTerm)
	}
	shows(t, d, not, "(not x0:8)")
	for _, d := range []*term.Dag{new(term.Dag), term.New(0), term.New(-1), term.New(api.MaxTerms + 1)} {
		fails(t, d, 0, api.ErrTerm)
		fails(t, d, 1, api.ErrTerm)
	}
}

// On nil there is no term.
func TestNil(t *testing.T) {
	for _, id := range append([]int{-1, 0, 1, 2, 255, 256, api.MaxShow, api.MaxTerms - 1, api.MaxTerms}, far...) {
		fails(t, nil, id, api.ErrTerm)
	}
}

// Promise 18.1: ErrLimit.

// long is a term of 8 bits, and its text, of just so many bytes: Nots, of 6
// bytes each, of one that has what they leave.
func long(t *testing.T, d *term.Dag, bytes int) (int, string) {
	t.Helper()
	ok := must(t)
	var id int
	var s string
	switch bytes % 6 {
	case 0:
		id, s = ok(d.Var(8, 100)), "x100:8"
	case 1:
		id, s = ok(d.Extract(ok(d.Const(8, 1)), 0, 8)), "(ext 0 8 1:8)"
	case 2:
		id, s = ok(d.Extract(ok(d.Var(8, 0)), 0, 8)), "(ext 0 8 x0:8)"
	case 3:
		id, s = ok(d.Const(8, 1)), "1:8"
	case 4:
		id, s = ok(d.Var(8, 0)), "x0:8"
	case 5:
		id, s = ok(d.Const(8, 200)), "200:8"
	}
	nots := (bytes - len(s)) / 6
	for range nots {
		id = ok(d.Unary(api.OpNot, id))
	}
	s = strings.Repeat("(not ", nots) + s + strings.Repeat(")", nots)
	if len(s) != bytes {
		t.Fatalf("a text of %d bytes, want %d", len(s), bytes)
	}
	return id, s
}

// The last bytes are but closing signs.
func TestLongestText(t *testing.T) {
	for bytes := api.MaxShow - 20; bytes <= api.MaxShow+20; bytes++ {
		d := term.New(api.MaxTerms)
		id, s := long(t, d, bytes)
		if bytes <= api.MaxShow {
			shows(t, d, id, s)
		} else {
			fails(t, d, id, api.ErrLimit)
		}
	}
}

// made is a term that is made of one that has a long text.
type made struct {
	// ahead and behind are what its text has beside the long one.
	ahead, behind string
	of            func(d *term.Dag, a int) (int, api.Errno)
}

// around are terms of all kinds, with the long one in each of their places.
func around(t *testing.T) []made {
	ok := must(t)
	y := func(d *term.Dag) int { return ok(d.Var(8, 7)) }
	c := func(d *term.Dag) int { return ok(d.Var(1, 1)) }
	k := func(d *term.Dag) int { return ok(d.Const(8, 123)) }
	return []made{
		{"(not ", ")", func(d *term.Dag, a int) (int, api.Errno) { return d.Unary(api.OpNot, a) }},
		{"(neg ", ")", func(d *term.Dag, a int) (int, api.Errno) { return d.Unary(api.OpNeg, a) }},
		{"(udiv ", " x7:8)", func(d *term.Dag, a int) (int, api.Errno) { return d.Binary(api.OpUdiv, a, y(d)) }},
		{"(or x7:8 ", ")", func(d *term.Dag, a int) (int, api.Errno) { return d.Binary(api.OpOr, y(d), a) }},
		{"(eq ", " 123:8)", func(d *term.Dag, a int) (int, api.Errno) { return d.Binary(api.OpEq, a, k(d)) }},
		{"(slt 123:8 ", ")", func(d *term.Dag, a int) (int, api.Errno) { return d.Binary(api.OpSlt, k(d), a) }},
		{"(ite (eq ", " 123:8) x7:8 123:8)", func(d *term.Dag, a int) (int, api.Errno) {
			return d.Ite(ok(d.Binary(api.OpEq, a, k(d))), y(d), k(d))
		}},
		{"(ite x1:1 ", " x7:8)", func(d *term.Dag, a int) (int, api.Errno) { return d.Ite(c(d), a, y(d)) }},
		{"(ite x1:1 123:8 ", ")", func(d *term.Dag, a int) (int, api.Errno) { return d.Ite(c(d), k(d), a) }},
		{"(ext 3 5 ", ")", func(d *term.Dag, a int) (int, api.Errno) { return d.Extract(a, 3, 5) }},
		{"(cat ", " 123:8)", func(d *term.Dag, a int) (int, api.Errno) { return d.Concat(a, k(d)) }},
		{"(cat x1:1 ", ")", func(d *term.Dag, a int) (int, api.Errno) { return d.Concat(c(d), a) }},
		{"(zext 64 ", ")", func(d *term.Dag, a int) (int, api.Errno) { return d.Extend(a, 64, false) }},
		{"(sext 9 ", ")", func(d *term.Dag, a int) (int, api.Errno) { return d.Extend(a, 9, true) }},
		{"(xor ", " (ite x1:1 x7:8 123:8))", func(d *term.Dag, a int) (int, api.Errno) {
			return d.Binary(api.OpXor, a, ok(d.Ite(c(d), y(d), k(d))))
		}},
	}
}

func TestLongestTextOfEachKind(t *testing.T) {
	for _, m := range around(t) {
		rest := len(m.ahead) + len(m.behind)
		for bytes := api.MaxShow - 1; bytes <= api.MaxShow+rest+1; bytes++ {
			d, ok := term.New(api.MaxTerms), must(t)
			part, s := long(t, d, bytes-rest)
			id := ok(m.of(d, part))
			if bytes <= api.MaxShow {
				shows(t, d, id, m.ahead+s+m.behind)
			} else {
				fails(t, d, id, api.ErrLimit)
			}
			// Whether or not it is shown where it stands in others.
			if bytes-rest <= api.MaxShow {
				shows(t, d, part, s)
			} else {
				fails(t, d, part, api.ErrLimit)
			}
		}
	}
}

// Two long parts, of which each is short enough.
func TestLongParts(t *testing.T) {
	for _, bytes := range []int{api.MaxShow - 1, api.MaxShow, api.MaxShow + 1, api.MaxShow + 2} {
		for _, first := range []int{13, 50, 1000, 2047, 2048, 2049, 4000} {
			d, ok := term.New(api.MaxTerms), must(t)
			a, s := long(t, d, first)
			b, u := long(t, d, bytes-first-len("(add  )"))
			id := ok(d.Binary(api.OpAdd, a, b))
			if bytes <= api.MaxShow {
				shows(t, d, id, "(add "+s+" "+u+")")
			} else {
				fails(t, d, id, api.ErrLimit)
			}
			shows(t, d, a, s)
			shows(t, d, b, u)
		}
	}
}

// As deep as there is room for: of a term that is too long the parts that are
// short enough are shown.
func TestDeep(t *testing.T) {
	d, ok := term.New(api.MaxTerms), must(t)
	id, s := ok(d.Var(8, 0)), "x0:8"
	for d.Len() < api.MaxTerms {
		switch {
		case len(s) <= api.MaxShow:
			shows(t, d, id, s)
			s = "(not " + s + ")"
		case d.Len() < 1000 || d.Len()%500 == 0:
			if got, e := Show(d, id); got != "" || e != api.ErrLimit {
				t.Fatalf("Show(%d) = %q, %d, want none", id, got, e)
			}
		}
		id = ok(d.Unary(api.OpNot, id))
	}
	fails(t, d, id, api.ErrLimit)
	fails(t, d, id+1, api.ErrTerm)
	shows(t, d, 1, "(not x0:8)")
}

// Deep in the last place of each term, and in the middle one.
func TestDeepBehind(t *testing.T) {
	d, ok := term.New(api.MaxTerms), must(t)
	c, x := ok(d.Var(1, 0)), ok(d.Var(8, 1))
	last, middle := x, x
	for d.Len() < api.MaxTerms-1 {
		last, middle = ok(d.Binary(api.OpSub, x, last)), ok(d.Ite(c, middle, x))
	}
	fails(t, d, last, api.ErrLimit)
	fails(t, d, middle, api.ErrLimit)
	shows(t, d, 4, "(sub x1:8 (sub x1:8 x1:8))")
	shows(t, d, 5, "(ite x0:1 (ite x0:1 x1:8 x1:8) x1:8)")
}

// Each has the one ahead twice: nobody would live to see the text of the last.
func TestTwiceTheOneAhead(t *testing.T) {
	d, ok := term.New(api.MaxTerms), must(t)
	id, s := ok(d.Var(8, 0)), "x0:8"
	for d.Len() < api.MaxTerms {
		switch {
		case len(s) <= api.MaxShow:
			shows(t, d, id, s)
			s = "(add " + s + " " + s + ")"
		case d.Len() < 100 || d.Len()%500 == 0:
			if got, e := Show(d, id); got != "" || e != api.ErrLimit {
				t.Fatalf("Show(%d) = %q, %d, want none", id, got, e)
			}
		}
		id = ok(d.Binary(api.OpAdd, id, id))
	}
	fails(t, d, id, api.ErrLimit)
	// 4, 15, 37 .. 2809 bytes, and then 5625.
	shows(t, d, 2, "(add (add x0:8 x0:8) (add x0:8 x0:8))")
	if got, e := Show(d, 8); len(got) != 2809 || e != api.OK {
		t.Errorf("Show(8) = %q, %d", got, e)
	}
	fails(t, d, 9, api.ErrLimit)
}

// Three times, and with what is short ahead of what is long.
func TestThreeTimesTheOneAhead(t *testing.T) {
	d, ok := term.New(api.MaxTerms), must(t)
	bit := ok(d.Var(1, 0))
	id := bit
	for range 2000 {
		id = ok(d.Ite(id, id, id))
		id = ok(d.Ite(bit, id, id))
	}
	for ; id > 20; id -= 7 {
		if got, e := Show(d, id); got != "" || e != api.ErrLimit {
			t.Fatalf("Show(%d) = %q, %d, want none", id, got, e)
		}
	}
	shows(t, d, 2, "(ite x0:1 (ite x0:1 x0:1 x0:1) (ite x0:1 x0:1 x0:1))")
}

// Promise 18.1, and what holds everywhere.

// Whatever was asked ahead, of this dag and of others.
func TestSameAgain(t *testing.T) {
	d, other, ok := term.New(api.MaxTerms), term.New(api.MaxTerms), must(t)
	x := ok(d.Var(8, 0))
	sum := ok(d.Binary(api.OpAdd, x, x))
	big, s := long(t, d, api.MaxShow)
	great, _ := long(t, d, api.MaxShow+1)
	y := ok(other.Var(64, 0))
	for range 3 {
		shows(t, d, big, s)
		shows(t, d, sum, "(add x0:8 x0:8)")
		fails(t, d, great, api.ErrLimit)
		shows(t, other, y, "x0:64")
		fails(t, d, d.Len(), api.ErrTerm)
		shows(t, d, x, "x0:8")
	}
	// What comes to be behind it changes no text.
	ok(d.Unary(api.OpNeg, sum))
	shows(t, d, sum, "(add x0:8 x0:8)")
}

func TestAtTheSameTime(t *testing.T) {
	var all sync.WaitGroup
	for g := range 8 {
		all.Go(func() {
			d := term.New(3000)
			name := string(rune('0' + g))
			id, _ := d.Var(8, g)
			s := "x" + name + ":8"
			for i := range 500 {
				got, e := Show(d, id)
				if len(s) > api.MaxShow && (got != "" || e != api.ErrLimit) || len(s) <= api.MaxShow && (got != s || e != api.OK) {
					t.Errorf("dag %d: Show = %q, %d behind %d, want %q", g, got, e, i, s)
				}
				k, _ := d.Const(8, uint64(g))
				id, _ = d.Binary(api.OpAdd+g, k, id)
				s = "(" + Word(api.OpAdd+g) + " " + name + ":8 " + s + ")"
			}
		})
	}
	all.Wait()
}
