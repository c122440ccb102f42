package dimacs

import (
	"fmt"
	"math"
	"slices"
	"strconv"
	"strings"
	"testing"

	"breakwater/api"
)

// sample is clauses of so many variables, and their text.
type sample struct {
	vars int
	l    [][]int
	text string
}

// samples tells ordinary clauses and the edges, their texts written out by
// hand.
func samples() []sample {
	last := 2*api.MaxVars - 2
	return []sample{
		{2, [][]int{{0, 3}}, "p cnf 2 1\n1 -2 0\n"},
		{3, [][]int{{}, {5, 0}}, "p cnf 3 2\n0\n-3 1 0\n"},
		{3, [][]int{{0, 2, 4}, {1, 3}, {5}}, "p cnf 3 3\n1 2 3 0\n-1 -2 0\n-3 0\n"},
		// No clauses, and no list at all.
		{0, nil, "p cnf 0 0\n"},
		{0, [][]int{}, "p cnf 0 0\n"},
		{1, nil, "p cnf 1 0\n"},
		{10, [][]int{}, "p cnf 10 0\n"},
		{api.MaxVars, nil, "p cnf 1048576 0\n"},
		// An empty clause, alone, first, in the middle and last.
		{0, [][]int{{}}, "p cnf 0 1\n0\n"},
		{0, [][]int{nil, {}}, "p cnf 0 2\n0\n0\n"},
		{4, [][]int{nil}, "p cnf 4 1\n0\n"},
		{2, [][]int{{}, {0}, {3}}, "p cnf 2 3\n0\n1 0\n-2 0\n"},
		{2, [][]int{{0}, {}, {3}}, "p cnf 2 3\n1 0\n0\n-2 0\n"},
		{2, [][]int{{0}, {3}, {}}, "p cnf 2 3\n1 0\n-2 0\n0\n"},
		{2, [][]int{{}, {0}, nil, {3}, {}}, "p cnf 2 5\n0\n1 0\n0\n-2 0\n0\n"},
		// A clause that is there several times.
		{2, [][]int{{0, 3}, {0, 3}, {1}, {0, 3}}, "p cnf 2 4\n1 -2 0\n1 -2 0\n-1 0\n1 -2 0\n"},
		// Literals that are there several times, in whatever order.
		{3, [][]int{{4, 4, 4}}, "p cnf 3 1\n3 3 3 0\n"},
		{3, [][]int{{5, 1, 4, 0, 5, 2, 3}}, "p cnf 3 1\n-3 -1 3 1 -3 2 -2 0\n"},
		{3, [][]int{{0, 1, 0}, {1, 0}, {0, 1}}, "p cnf 3 3\n1 -1 1 0\n-1 1 0\n1 -1 0\n"},
		// Both literals of the first and the last variable.
		{1, [][]int{{0}, {1}}, "p cnf 1 2\n1 0\n-1 0\n"},
		{100, [][]int{{0}, {1}, {198}, {199}}, "p cnf 100 4\n1 0\n-1 0\n100 0\n-100 0\n"},
		{api.MaxVars, [][]int{{0, 1, last, last + 1}}, "p cnf 1048576 1\n1 -1 1048576 -1048576 0\n"},
		{api.MaxVars - 1, [][]int{{last - 1, last - 2}}, "p cnf 1048575 1\n-1048575 1048575 0\n"},
		// Digits that are noughts behind the first.
		{2000, [][]int{{18, 19, 198, 199, 1998, 1999, 2018, 2021}}, "p cnf 2000 1\n10 -10 100 -100 1000 -1000 1010 -1011 0\n"},
		{10, many(10, []int{18}), "p cnf 10 10\n" + strings.Repeat("10 0\n", 10)},
	}
}

// many tells n times clause c, each the same list.
func many(n int, c []int) [][]int { return slices.Repeat([][]int{c}, n) }

// clauses tells all lists of up to n numbers of 0 to top - 1.
func clauses(n, top int) [][]int {
	all := [][]int{nil}
	for from := 0; n > 0; n-- {
		till := len(all)
		for _, l := range all[from:till] {
			for x := range top {
				all = append(all, append(slices.Clone(l), x))
			}
		}
		from = till
	}
	return all
}

// lists calls do with all lists of up to three short clauses of few variables.
func lists(do func(vars int, l [][]int)) {
	for vars := range 4 {
		all := clauses(2, 2*vars)
		do(vars, nil)
		for _, a := range all {
			do(vars, [][]int{a})
			for _, b := range all {
				do(vars, [][]int{a, b})
				if len(a)+len(b) > 2 {
					continue
				}
				for _, c := range all {
					do(vars, [][]int{a, b, c})
				}
			}
		}
	}
}

// plainPut tells the text of clauses that are well made, by the words of the
// chapters 2 and 5.
func plainPut(vars int, l [][]int) string {
	var b strings.Builder
	fmt.Fprintf(&b, "p cnf %d %d\n", vars, len(l))
	for _, c := range l {
		for _, x := range c {
			if x%2 == 1 {
				fmt.Fprintf(&b, "-%d ", x/2+1)
			} else {
				fmt.Fprintf(&b, "%d ", x/2+1)
			}
		}
		fmt.Fprintln(&b, 0)
	}
	return b.String()
}

// plainRead tells what clauses text is of by making them of its words, however
// they stand there, and asking whether their text is this one.
func plainRead(text string) (int, [][]int, bool) {
	lines := strings.Split(text, "\n")
	head := strings.Fields(lines[0])
	if len(head) != 4 || len(lines) < 2 {
		return 0, nil, false
	}
	vars, err := strconv.Atoi(head[2])
	if err != nil || vars < 0 || vars > api.MaxVars {
		return 0, nil, false
	}
	var l [][]int
	for _, line := range lines[1 : len(lines)-1] {
		c, is := plainClause(strings.Fields(line), vars)
		if !is {
			return 0, nil, false
		}
		l = append(l, c)
	}
	if len(l) > api.MaxClauses || plainPut(vars, l) != text {
		return 0, nil, false
	}
	return vars, l, true
}

func plainClause(words []string, vars int) ([]int, bool) {
	var c []int
	for i, word := range words {
		n, err := strconv.Atoi(word)
		switch {
		case err != nil || n < -vars || n > vars:
			return nil, false
		case n > 0:
			c = append(c, 2*(n-1))
		case n < 0:
			c = append(c, 2*(-n-1)+1)
		case i < len(words)-1:
			return nil, false
		}
	}
	return c, true
}

func same(a, b [][]int) bool { return slices.EqualFunc(a, b, slices.Equal) }

// short tells the beginning of a text that may be long.
func short(text string) string { return strconv.Quote(text[:min(len(text), 200)]) }

func wantPut(t *testing.T, vars int, l [][]int, text string) {
	t.Helper()
	if s, e := Put(vars, l); s != text || e != api.OK {
		t.Fatalf("Put(%d, %d clauses) = %s, %d; want %s", vars, len(l), short(s), e, short(text))
	}
}

func wantRead(t *testing.T, text string, vars int, l [][]int) {
	t.Helper()
	n, got, e := Read(text)
	if n != vars || !same(got, l) || e != api.OK {
		t.Fatalf("Read(%s) = %d, %d clauses, %d; want %d, %d clauses", short(text), n, len(got), e, vars, len(l))
	}
}

func wantRefused(t *testing.T, text string) {
	t.Helper()
	if n, l, e := Read(text); n != 0 || len(l) != 0 || e != api.ErrText {
		t.Errorf("Read(%s) = %d, %v, %d; want nothing and ErrText", short(text), n, l, e)
	}
}

// wantPlain asks that text is read as plainRead does.
func wantPlain(t *testing.T, text string) bool {
	t.Helper()
	vars, l, is := plainRead(text)
	if is {
		wantRead(t, text, vars, l)
	} else {
		wantRefused(t, text)
	}
	return is
}

// Promise 5.1: Put.

func TestPutSamples(t *testing.T) {
	for _, s := range samples() {
		wantPut(t, s.vars, s.l, s.text)
	}
}

func TestPutAllShort(t *testing.T) {
	lists(func(vars int, l [][]int) { wantPut(t, vars, l, plainPut(vars, l)) })
}

func TestPutEveryLiteral(t *testing.T) {
	c := make([]int, 2*api.MaxVars)
	for x := range c {
		c[x] = x
	}
	wantPut(t, api.MaxVars, [][]int{c}, plainPut(api.MaxVars, [][]int{c}))
}

func TestPutMaxClauses(t *testing.T) {
	head := "p cnf 2 1048576\n"
	wantPut(t, 2, many(api.MaxClauses, nil), head+strings.Repeat("0\n", api.MaxClauses))
	wantPut(t, 2, many(api.MaxClauses, []int{3, 0}), head+strings.Repeat("-2 1 0\n", api.MaxClauses))
	wantPut(t, 2, many(api.MaxClauses-1, []int{3}), "p cnf 2 1048575\n"+strings.Repeat("-2 0\n", api.MaxClauses-1))
}

func wantPutError(t *testing.T, vars int, l [][]int, want api.Errno) {
	t.Helper()
	if s, e := Put(vars, l); s != "" || e != want {
		t.Errorf("Put(%d, %d clauses) = %s, %d; want no text and %d", vars, len(l), short(s), e, want)
	}
}

var wrongVars = []int{-1, -2, math.MinInt + 1, math.MinInt, api.MaxVars + 1, api.MaxVars + 2, math.MaxInt - 1, math.MaxInt}

// wrongLits tells numbers that are no literals of so many variables.
func wrongLits(vars int) []int {
	return []int{
		-1, -2, -2 * api.MaxVars, math.MinInt + 1, math.MinInt,
		2 * vars, 2*vars + 1, 2*vars + 2, 2 * api.MaxVars, 2*api.MaxVars + 1, math.MaxInt - 1, math.MaxInt,
	}
}

func TestPutWrongVars(t *testing.T) {
	for _, vars := range wrongVars {
		wantPutError(t, vars, nil, api.ErrVar)
		wantPutError(t, vars, [][]int{{}}, api.ErrVar)
		wantPutError(t, vars, [][]int{{0, 1}}, api.ErrVar)
	}
}

func TestPutTooManyClauses(t *testing.T) {
	for _, n := range []int{api.MaxClauses + 1, api.MaxClauses + 2, 2 * api.MaxClauses} {
		wantPutError(t, 0, many(n, nil), api.ErrLimit)
		wantPutError(t, api.MaxVars, many(n, []int{0, 1}), api.ErrLimit)
	}
}

func TestPutWrongLiterals(t *testing.T) {
	for _, vars := range []int{0, 1, 2, 100, api.MaxVars} {
		good := []int{}
		if vars > 0 {
			good = []int{0, 2*vars - 1}
		}
		for _, x := range wrongLits(vars) {
			for at := range len(good) + 1 {
				bad := slices.Insert(slices.Clone(good), at, x)
				wantPutError(t, vars, [][]int{bad}, api.ErrVar)
				wantPutError(t, vars, [][]int{bad, good, {}}, api.ErrVar)
				wantPutError(t, vars, [][]int{good, bad, {}}, api.ErrVar)
				wantPutError(t, vars, [][]int{good, {}, bad}, api.ErrVar)
			}
		}
	}
}

func TestPutSeveralErrors(t *testing.T) {
	over := many(api.MaxClauses+1, []int{-1})
	for _, vars := range wrongVars {
		wantPutError(t, vars, over, api.ErrVar)
		wantPutError(t, vars, many(api.MaxClauses+1, nil), api.ErrVar)
		wantPutError(t, vars, [][]int{{-1}}, api.ErrVar)
	}
	// Too many clauses are told ahead of a literal that is none.
	wantPutError(t, 0, over, api.ErrLimit)
	wantPutError(t, 3, over, api.ErrLimit)
	wantPutError(t, 3, many(api.MaxClauses+1, []int{6}), api.ErrLimit)
	wantPutError(t, 3, many(api.MaxClauses, []int{6}), api.ErrVar)
}

func TestPutLeavesInputs(t *testing.T) {
	room := []int{5, 0, 77, 78}
	l := [][]int{room[:2], {1, 1}, nil, {4}}
	in := l[:3]
	for _, vars := range []int{3, 2, -1} {
		Put(vars, in)
	}
	if !slices.Equal(room, []int{5, 0, 77, 78}) || !same(l, [][]int{{5, 0}, {1, 1}, {}, {4}}) {
		t.Errorf("Put has changed its clauses: %v, %v", l, room)
	}
}

// Promise 5.1: Read.

func TestReadSamples(t *testing.T) {
	for _, s := range samples() {
		wantRead(t, s.text, s.vars, s.l)
	}
}

func TestReadMaxClauses(t *testing.T) {
	head := "p cnf 2 1048576\n"
	wantRead(t, head+strings.Repeat("0\n", api.MaxClauses), 2, many(api.MaxClauses, nil))
	wantRead(t, head+strings.Repeat("-2 1 0\n", api.MaxClauses), 2, many(api.MaxClauses, []int{3, 0}))
	wantRefused(t, head+strings.Repeat("0\n", api.MaxClauses-1))
	wantRefused(t, head+strings.Repeat("0\n", api.MaxClauses+1))
	wantRefused(t, "p cnf 2 1048577\n"+strings.Repeat("0\n", api.MaxClauses+1))
	wantRefused(t, "p cnf 2 2097152\n"+strings.Repeat("-2 1 0\n", 2*api.MaxClauses))
}

// TestReadOneByteOff goes over texts that Put tells with one byte left out, put
// in or changed, at every place.
func TestReadOneByteOff(t *testing.T) {
	read := 0
	try := func(text string) {
		if wantPlain(t, text) {
			read++
		}
	}
	for _, s := range samples() {
		text := s.text
		for at := range len(text) + 1 {
			for b := range 256 {
				try(text[:at] + string([]byte{byte(b)}) + text[at:])
				if at < len(text) {
					try(text[:at] + string([]byte{byte(b)}) + text[at+1:])
				}
			}
			if at < len(text) {
				try(text[:at] + text[at+1:])
			}
		}
	}
	// Some of these are texts of other clauses, and are to be read.
	if read < 1000 {
		t.Errorf("only %d of the texts are read", read)
	}
}

// TestReadAllShort goes over all short texts of the bytes that texts are made
// of, behind as much of the first line as is of no choice.
func TestReadAllShort(t *testing.T) {
	read := 0
	var try func(text string, more int)
	try = func(text string, more int) {
		if wantPlain(t, text) {
			read++
		}
		if more == 0 {
			return
		}
		for _, b := range []byte("012- \n") {
			try(text+string(b), more-1)
		}
	}
	try("p cnf ", 7)
	try("p cnf 2 1\n", 7)
	try("p cnf 1 2\n1 0\n", 6)
	if read < 50 {
		t.Errorf("only %d of the texts are read", read)
	}
}

func TestReadWrongFirstLine(t *testing.T) {
	for _, text := range []string{
		"", "\n", " ", "0", "0\n", "\x00", "c\n",
		// Without the first line, or with a part of it.
		"1 -2 0\n", "p\n", "p \n", "p cnf\n", "p cnf \n", "p cnf", "p cnf 2\n", "p cnf 2 \n", "p cnf 2", "p cnf 2 1",
		"p cnf 2\n1 -2 0\n", "p cnf\n1 -2 0\n", "cnf 2 1\n1 -2 0\n", "2 1\n1 -2 0\n", "p 2 1\n1 -2 0\n", "p cnf 0 0",
		// Other words, or another order of words.
		"P cnf 0 0\n", "p CNF 0 0\n", "p Cnf 0 0\n", "p dnf 0 0\n", "p sat 0 0\n", "p cnf+ 0 0\n", "q cnf 0 0\n", "pp cnf 0 0\n",
		"cnf p 0 0\n", "p 0 cnf 0\n", "p 0 0 cnf\n", "0 0 p cnf\n", "p cnf 0 0 0\n", "p cnf 0 0 p\n", "p cnf x 0\n", "p cnf 0 x\n",
		"p cnf 1 2\n1 -2 0\n", "pcnf 0 0\n", "p p cnf 0 0\n", "p cnf cnf 0 0\n",
		// A second one, and one that is not the first.
		"p cnf 0 0\np cnf 0 0\n", "p cnf 2 1\np cnf 2 1\n1 -2 0\n", "p cnf 2 1\n1 -2 0\np cnf 2 1\n", "1 -2 0\np cnf 2 1\n",
		"c clauses\np cnf 0 0\n", "p cnf 0 0\nc clauses\n", "p cnf 2 2\nc 0\n1 0\n",
	} {
		wantRefused(t, text)
	}
}

func TestReadWrongLines(t *testing.T) {
	for _, text := range []string{
		// Without the last byte 10, and with bytes behind it.
		"p cnf 0 0", "p cnf 3 2\n0\n-3 1 0", "p cnf 0 1\n0", "p cnf 0 0\n\n", "p cnf 0 0\n ", "p cnf 0 0\n0", "p cnf 0 0\n\x00",
		"p cnf 2 1\n1 -2 0\n\n", "p cnf 2 1\n1 -2 0\n ", "p cnf 2 1\n1 -2 0\n0", "p cnf 2 1\n1 -2 0\nx", "p cnf 2 1\n1 -2 0\n%\n0\n",
		// Empty lines.
		"\np cnf 2 1\n1 -2 0\n", "p cnf 2 1\n\n1 -2 0\n", "p cnf 2 2\n1 0\n\n-2 0\n", "p cnf 2 2\n\n1 0\n", "p cnf 2 1\n\n", "p cnf 2 2\n1 0\n\n",
		// A byte 13 ahead of a byte 10, or in its place.
		"p cnf 0 0\r\n", "p cnf 0 0\r", "p cnf 2 1\r\n1 -2 0\r\n", "p cnf 2 1\n1 -2 0\r\n", "p cnf 2 1\r\n1 -2 0\n", "p cnf 0 1\n0\r\n", "p cnf 0 1\n0\r",
		// No blank.
		"pcnf 2 1\n1 -2 0\n", "p cnf2 1\n1 -2 0\n", "p cnf 21\n1 -2 0\n", "p cnf 2 1\n1-2 0\n", "p cnf 2 1\n1 -20\n", "p cnf 20 1\n1 -20\n",
		// Two blanks, a tab, another blank.
		"p  cnf 2 1\n1 -2 0\n", "p cnf  2 1\n1 -2 0\n", "p cnf 2  1\n1 -2 0\n", "p cnf 2 1\n1  -2 0\n", "p cnf 2 1\n1 -2  0\n", "p cnf 2 1\n1 - 2 0\n",
		"p\tcnf 2 1\n1 -2 0\n", "p cnf\t2 1\n1 -2 0\n", "p cnf 2\t1\n1 -2 0\n", "p cnf 2 1\n1\t-2 0\n", "p cnf 2 1\n1 -2\t0\n",
		"p cnf 2 1\n1\v-2 0\n", "p cnf 2 1\n1\f-2 0\n", "p cnf 2 1\n1\u00a0-2 0\n", "p cnf 2 1\n1\n-2 0\n", "p cnf 2 1\n1\r-2 0\n", "p cnf 2 1\n1,-2 0\n",
		// A blank at a line's beginning or end.
		" p cnf 2 1\n1 -2 0\n", "p cnf 2 1 \n1 -2 0\n", "p cnf 2 1\n 1 -2 0\n", "p cnf 2 1\n1 -2 0 \n", "p cnf 0 1\n 0\n", "p cnf 0 1\n0 \n", "p cnf 0 0 \n",
		"\tp cnf 2 1\n1 -2 0\n", "p cnf 2 1\t\n1 -2 0\n", "p cnf 2 1\n\t1 -2 0\n", "p cnf 2 1\n1 -2 0\t\n",
		// Fewer lines than the first line says, and more.
		"p cnf 2 1\n", "p cnf 2 2\n1 -2 0\n", "p cnf 2 3\n1 0\n0\n", "p cnf 2 1048576\n1 0\n", "p cnf 2 1048576\n",
		"p cnf 2 0\n1 -2 0\n", "p cnf 2 1\n1 0\n-2 0\n", "p cnf 2 0\n0\n", "p cnf 2 1\n0\n0\n", "p cnf 2 2\n1 0\n-2 0\n0\n",
		// Without the 0 at the end, with one in the middle, with two.
		"p cnf 2 1\n1 -2\n", "p cnf 2 1\n1 -2 \n", "p cnf 2 1\n1\n", "p cnf 2 2\n1\n-2 0\n", "p cnf 2 2\n1 \n-2 0\n", "p cnf 2 2\n1 0\n-2\n",
		"p cnf 2 1\n1 0 -2\n", "p cnf 2 1\n1 0 -2 0\n", "p cnf 2 2\n1 0 -2 0\n", "p cnf 2 1\n0 1\n", "p cnf 2 1\n0 1 0\n",
		"p cnf 2 1\n1 -2 0 0\n", "p cnf 2 1\n0 0\n", "p cnf 2 2\n0 0\n", "p cnf 2 2\n1 0 0\n", "p cnf 2 1\n1 -2 00\n",
	} {
		wantRefused(t, text)
	}
}

// badNumbers are no numbers as Put tells them, wherever they stand.
var badNumbers = []string{
	"", "-", "+", "--1", "+1", "+0", "-0", "00", "01", "001", "-01", "-00", "0-1", "1-", "1+", "-+1", "+-1", "-1-",
	"1.", "1.0", ".1", "1e0", "0x1", "0b1", "0o1", "1_0", "0_1", "x", "1x", "x1", "a", "l", "O", "Inf", "NaN", "\x001", "1\x00", "\x00",
	"1\x80", "\x801", "\xff", "1\xff", "\u00b9", "\u0661", "\uff11", "1\u0660", "\u22121", "/", ":", "1/", "1:", "'1'",
	"9223372036854775807", "9223372036854775808", "9223372036854775809", "18446744073709551615", "18446744073709551616", "18446744073709551617",
	"-9223372036854775807", "-9223372036854775808", "-9223372036854775809", "-18446744073709551617", "4294967295", "4294967296", "4294967297",
	"100000000000000000000000000000000000000000000000001", "-100000000000000000000000000000000000000000000000001",
}

func TestReadWrongNumbers(t *testing.T) {
	long := strings.Repeat("0", 1000)
	more := append([]string{long, long + "1", "1" + long, "-" + long, "-1" + long, strings.Repeat("9", 100000)}, badNumbers...)
	for _, n := range more {
		for _, form := range []string{
			"p cnf %s 0\n", "p cnf %s 1\n0\n", "p cnf %s 1\n1 0\n", "p cnf 2 %s\n", "p cnf 2 %s\n0\n", "p cnf 2 %s\n1 0\n",
			"p cnf 2 1\n%s 0\n", "p cnf 2 1\n1 %s 0\n", "p cnf 2 1\n%s 1 0\n", "p cnf 2 1\n1 %s -2 0\n",
			"p cnf 2 2\n1 0\n%s 0\n", "p cnf 2 2\n%s 0\n1 0\n", "p cnf 1048576 1\n%s 0\n", "p cnf 1048576 1\n1 %s 1 0\n",
			"p cnf 2 1\n%s\n", "p cnf 2 1\n1 %s\n",
		} {
			wantRefused(t, fmt.Sprintf(form, n))
		}
	}
	for _, text := range []string{"p cnf -1 0\n", "p cnf 2 -1\n", "p cnf -2 1\n1 0\n", "p cnf 2 -1\n1 0\n"} {
		wantRefused(t, text)
	}
}

func TestReadPastLimits(t *testing.T) {
	for _, vars := range []int{0, 1, 9, 10, 99, api.MaxVars - 1} {
		for _, n := range []int{vars + 1, -vars - 1, vars + 2, 10*vars + 10, api.MaxVars + 1, -api.MaxVars - 1, math.MaxInt, math.MinInt} {
			wantRefused(t, fmt.Sprintf("p cnf %d 1\n%d 0\n", vars, n))
			wantRefused(t, fmt.Sprintf("p cnf %d 2\n0\n%d 0\n", vars, n))
			if vars > 0 {
				wantRefused(t, fmt.Sprintf("p cnf %d 1\n1 %d %d 0\n", vars, -vars, n))
				wantRefused(t, fmt.Sprintf("p cnf %d 1\n%d %d 0\n", vars, n, vars))
			}
		}
	}
	for _, n := range []int{api.MaxVars + 1, -api.MaxVars - 1, 10 * api.MaxVars, math.MaxInt, math.MinInt} {
		wantRefused(t, fmt.Sprintf("p cnf %d 1\n%d 0\n", api.MaxVars, n))
	}
	for _, vars := range []int{api.MaxVars + 1, api.MaxVars + 2, 2 * api.MaxVars, 10 * api.MaxVars, math.MaxInt} {
		wantRefused(t, fmt.Sprintf("p cnf %d 0\n", vars))
		wantRefused(t, fmt.Sprintf("p cnf %d 1\n1 0\n", vars))
	}
	for _, count := range []int{api.MaxClauses + 1, api.MaxClauses + 2, 2 * api.MaxClauses, 10 * api.MaxClauses, math.MaxInt} {
		wantRefused(t, fmt.Sprintf("p cnf 2 %d\n", count))
		wantRefused(t, fmt.Sprintf("p cnf 2 %d\n1 0\n", count))
	}
}

// TestReadNewMemory asks that clauses that are told share no memory, with each
// other or with what is told of the same text again.
func TestReadNewMemory(t *testing.T) {
	text := "p cnf 3 4\n1 2 0\n1 2 0\n3 0\n-1 0\n"
	_, l, _ := Read(text)
	for _, c := range l {
		c = c[:cap(c)]
		for i := range c {
			c[i] = 5
		}
		_ = append(c, 5)
	}
	if want := [][]int{{5, 5}, {5, 5}, {5}, {5}}; !same(l, want) {
		t.Errorf("clauses = %v, want %v", l, want)
	}
	_, l, _ = Read(text)
	_ = append(l[0], 4, 4, 4, 4, 4)
	wantRead(t, text, 3, l)
	if want := [][]int{{0, 2}, {0, 2}, {4}, {1}}; !same(l, want) {
		t.Errorf("clauses = %v, want %v", l, want)
	}
}

// Promise 5.2: what is put is read as it was.

func wantBack(t *testing.T, vars int, l [][]int) {
	t.Helper()
	s, e := Put(vars, l)
	if e != api.OK {
		t.Fatalf("Put(%d, %d clauses) tells error %d", vars, len(l), e)
	}
	wantRead(t, s, vars, l)
}

func TestPutReadSamples(t *testing.T) {
	for _, s := range samples() {
		wantBack(t, s.vars, s.l)
	}
}

func TestPutReadAllShort(t *testing.T) {
	lists(func(vars int, l [][]int) { wantBack(t, vars, l) })
}

func TestPutReadGreat(t *testing.T) {
	every := make([]int, 2*api.MaxVars)
	for x := range every {
		every[x] = x
	}
	wantBack(t, api.MaxVars, [][]int{every})
	slices.Reverse(every)
	wantBack(t, api.MaxVars, [][]int{{}, every, {0}})
	each := make([][]int, api.MaxClauses)
	for i := range each {
		each[i] = slices.Repeat([]int{2*i + i%2}, i%4)
	}
	wantBack(t, api.MaxVars, each)
	for vars := range 2000 {
		wantBack(t, vars, many(vars, nil))
	}
}

// TestReadPutTexts asks that no two texts are of the same clauses: what is read
// is put as the same text.
func TestReadPutTexts(t *testing.T) {
	for _, s := range samples() {
		vars, l, e := Read(s.text)
		if e != api.OK {
			t.Fatalf("Read(%s) tells error %d", short(s.text), e)
		}
		wantPut(t, vars, l, s.text)
	}
}
