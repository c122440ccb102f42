package clause

import (
	"math"
	"slices"
	"testing"

	"breakwater/api"
)

// great are a variable that package lit's Make has not, and the greatest that
// has literals at all.
const (
	great    = api.MaxVars
	greatest = math.MaxInt / 2
)

// wrong are numbers of no literal, near 0 and far off.
var wrong = []int{-1, -2, -3, -2 * api.MaxVars, math.MinInt32, math.MinInt + 1, math.MinInt}

// spoiled tells l with x put in at the first, a middle and the last place.
func spoiled(l []int, x int) [][]int {
	var all [][]int
	for _, i := range []int{0, len(l) / 2, len(l)} {
		all = append(all, slices.Insert(slices.Clone(l), i, x))
	}
	return all
}

// lists tells all lists of up to n numbers of 0 to top - 1, in any order and
// also several times the same.
func lists(n, top int) [][]int {
	all := [][]int{nil}
	for from := 0; n > 0; n-- {
		till := len(all)
		for _, l := range all[from:till] {
			for x := range top {
				all = append(all, append(slices.Clone(l), x))
			}
		}
		from = till
	}
	return all
}

// truths tells all lists of truths of up to n variables, the shorter ones too.
func truths(n int) [][]bool {
	var all [][]bool
	for size := range n + 1 {
		for bits := range 1 << size {
			m := make([]bool, size)
			for v := range m {
				m[v] = bits>>v&1 == 1
			}
			all = append(all, m)
		}
	}
	return all
}

// plainHolds tells whether one of l holds, by the words of chapter 2.
func plainHolds(l []int, m []bool) bool {
	for _, x := range l {
		if x >= 0 && (x/2 < len(m) && m[x/2]) == (x%2 == 0) {
			return true
		}
	}
	return false
}

// plainNormal tells the numbers 0 to top - 1 that are in l, as they rise, and
// whether two of them are a literal and its Not.
func plainNormal(l []int, top int) ([]int, bool) {
	var n []int
	opposed := false
	for x := range top {
		if slices.Contains(l, x) {
			n = append(n, x)
			opposed = opposed || slices.Contains(l, x^1)
		}
	}
	return n, opposed
}

// others tells l without x, wherever it is.
func others(l []int, x int) []int {
	var n []int
	for _, y := range l {
		if y != x {
			n = append(n, y)
		}
	}
	return n
}

// roomy tells a list as l with spare room behind it, and all of its memory,
// the room filled with numbers that are told apart from any literal's.
func roomy(l []int) (list, memory []int) {
	memory = slices.Concat(l, []int{-91, -92, -93, -94, -95, -96, -97, -98})
	return memory[:len(l)], memory
}

// unchanged fails if call changes a list that it is handed, or the room
// behind it.
func unchanged(t *testing.T, name string, a, b []int, call func(a, b []int)) {
	t.Helper()
	p, memoryA := roomy(a)
	q, memoryB := roomy(b)
	beforeA, beforeB := slices.Clone(memoryA), slices.Clone(memoryB)
	call(p, q)
	if !slices.Equal(memoryA, beforeA) || !slices.Equal(memoryB, beforeB) {
		t.Errorf("%s of %v, %v changed them to %v, %v", name, beforeA, beforeB, memoryA, memoryB)
	}
}

// Promise 3.1: Normal.

func TestNormal(t *testing.T) {
	for _, c := range []struct {
		l      []int
		want   []int
		always bool
	}{
		{nil, nil, false},
		{[]int{}, nil, false},
		{[]int{0}, []int{0}, false},
		{[]int{1}, []int{1}, false},
		{[]int{7}, []int{7}, false},
		{[]int{5, 5, 5}, []int{5}, false},
		{[]int{0, 0}, []int{0}, false},
		{[]int{0, 2, 4, 7}, []int{0, 2, 4, 7}, false},
		{[]int{7, 4, 2, 0}, []int{0, 2, 4, 7}, false},
		{[]int{8, 3, 8, 0, 3, 5}, []int{0, 3, 5, 8}, false},
		// Numbers that are neighbours, but of two variables.
		{[]int{1, 2}, []int{1, 2}, false},
		{[]int{6, 5, 3, 1}, []int{1, 3, 5, 6}, false},
		// A literal and its Not, next to each other and far apart.
		{[]int{0, 1}, []int{0, 1}, true},
		{[]int{1, 0}, []int{0, 1}, true},
		{[]int{4, 2, 4, 3}, []int{2, 3, 4}, true},
		{[]int{6, 0, 4, 10, 2, 7}, []int{0, 2, 4, 6, 7, 10}, true},
		{[]int{9, 12, 2, 4, 9, 8}, []int{2, 4, 8, 9, 12}, true},
		{[]int{0, 2, 4, 5}, []int{0, 2, 4, 5}, true},
		{[]int{0, 0, 1, 1}, []int{0, 1}, true},
		// Great numbers are literals as well.
		{[]int{2*great + 1, 2 * great}, []int{2 * great, 2*great + 1}, true},
		{[]int{math.MaxInt, 0}, []int{0, math.MaxInt}, false},
		{[]int{math.MaxInt, 0, math.MaxInt - 1}, []int{0, math.MaxInt - 1, math.MaxInt}, true},
		{[]int{math.MaxInt - 1, math.MaxInt - 2}, []int{math.MaxInt - 2, math.MaxInt - 1}, false},
	} {
		got, always, e := Normal(c.l)
		if !slices.Equal(got, c.want) || always != c.always || e != api.OK {
			t.Errorf("Normal(%v) = %v, %t, %d, want %v, %t", c.l, got, always, e, c.want, c.always)
		}
	}
}

func TestNormalOfAllShortLists(t *testing.T) {
	const top = 6
	for _, l := range lists(4, top) {
		want, opposed := plainNormal(l, top)
		got, always, e := Normal(l)
		if !slices.Equal(got, want) || always != opposed || e != api.OK {
			t.Errorf("Normal(%v) = %v, %t, %d, want %v, %t", l, got, always, e, want, opposed)
		}
	}
}

func TestNormalOfALongList(t *testing.T) {
	const size = 100000
	l := make([]int, 0, 2*size)
	for i := range size {
		l = append(l, 2*(size-1-i), 2*(i*7%size))
	}
	got, always, e := Normal(l)
	if len(got) != size || always || e != api.OK {
		t.Fatalf("Normal of a long list: %d literals, %t, %d, want %d", len(got), always, e, size)
	}
	for i, x := range got {
		if x != 2*i {
			t.Fatalf("Normal of a long list has %d at place %d", x, i)
		}
	}
	if _, always, e = Normal(append(l, 2*(size/2)+1)); !always || e != api.OK {
		t.Errorf("Normal of a long list that always holds: %t, %d", always, e)
	}
}

func TestNormalOfNoLiteral(t *testing.T) {
	for _, x := range wrong {
		for _, l := range [][]int{nil, {0}, {4, 2, 4, 3}, {0, 1}, {8, 6, 2}, {math.MaxInt, 0}, {x}, {x, 0, 1}} {
			for _, bad := range spoiled(l, x) {
				if got, always, e := Normal(bad); len(got) != 0 || always || e != api.ErrVar {
					t.Errorf("Normal(%v) = %v, %t, %d, want nothing, ErrVar", bad, got, always, e)
				}
			}
		}
	}
}

// Promise 3.1: Holds.

func TestHolds(t *testing.T) {
	yes, no := true, false
	for _, c := range []struct {
		l    []int
		m    []bool
		want bool
	}{
		{nil, nil, false},
		{[]int{}, []bool{}, false},
		{nil, []bool{yes, no}, false},
		{[]int{0}, []bool{yes}, true},
		{[]int{0}, []bool{no}, false},
		{[]int{1}, []bool{yes}, false},
		{[]int{1}, []bool{no}, true},
		{[]int{0, 3, 4}, []bool{no, yes, no}, false},
		{[]int{0, 3, 4}, []bool{yes, yes, no}, true},
		{[]int{0, 3, 4}, []bool{no, no, no}, true},
		{[]int{0, 3, 4}, []bool{no, yes, yes}, true},
		{[]int{4, 4, 4}, []bool{no, no, yes}, true},
		{[]int{4, 4, 4}, []bool{yes, yes, no}, false},
		{[]int{2, 3}, []bool{no, no}, true},
		{[]int{2, 3}, []bool{no, yes}, true},
		// Variables that the list does not have are false.
		{[]int{0, 3}, nil, true},
		{[]int{0, 2}, nil, false},
		{[]int{2, 4}, []bool{yes}, false},
		{[]int{2, 5}, []bool{yes}, true},
		{[]int{1, 2}, []bool{yes}, false},
		{[]int{2 * great}, []bool{yes}, false},
		{[]int{2*great + 1}, []bool{yes}, true},
		{[]int{math.MaxInt - 1}, []bool{yes}, false},
		{[]int{math.MaxInt}, []bool{yes}, true},
	} {
		if got := Holds(c.l, c.m); got != c.want {
			t.Errorf("Holds(%v, %v) = %t", c.l, c.m, got)
		}
	}
}

func TestHoldsOfAllShortLists(t *testing.T) {
	for _, l := range lists(4, 6) {
		for _, m := range truths(3) {
			if got := Holds(l, m); got != plainHolds(l, m) {
				t.Errorf("Holds(%v, %v) = %t", l, m, got)
			}
		}
	}
}

func TestHoldsOfNoLiteral(t *testing.T) {
	for _, x := range wrong {
		for _, l := range [][]int{nil, {0}, {4, 2, 4, 3}, {0, 5}} {
			for _, bad := range spoiled(l, x) {
				for _, m := range truths(3) {
					if got := Holds(bad, m); got != plainHolds(l, m) {
						t.Errorf("Holds(%v, %v) = %t, but %d does not hold", bad, m, got, x)
					}
				}
			}
		}
	}
}

// Promise 3.1: Has.

func TestHas(t *testing.T) {
	for _, c := range []struct {
		l    []int
		x    int
		want bool
	}{
		{nil, 0, false},
		{[]int{}, 0, false},
		{nil, -1, false},
		{[]int{5}, 5, true},
		{[]int{5}, 4, false},
		{[]int{4}, 5, false},
		{[]int{0}, 0, true},
		{[]int{0}, 1, false},
		{[]int{3, 3, 3}, 3, true},
		{[]int{3, 3, 3}, 2, false},
		// The first, a middle and the last one, of lists that rise, that fall
		// and that do neither.
		{[]int{0, 2, 4}, 0, true},
		{[]int{0, 2, 4}, 2, true},
		{[]int{0, 2, 4}, 4, true},
		{[]int{9, 6, 1}, 9, true},
		{[]int{9, 6, 1}, 6, true},
		{[]int{9, 6, 1}, 1, true},
		{[]int{6, 9, 1, 7}, 6, true},
		{[]int{6, 9, 1, 7}, 1, true},
		{[]int{6, 9, 1, 7}, 7, true},
		{[]int{6, 9, 1, 7}, 8, false},
		{[]int{6, 9, 1, 7}, 0, false},
		{[]int{0, math.MaxInt}, math.MaxInt, true},
		{[]int{0, math.MaxInt}, math.MaxInt - 1, false},
	} {
		if got := Has(c.l, c.x); got != c.want {
			t.Errorf("Has(%v, %d) = %t", c.l, c.x, got)
		}
	}
}

func TestHasOfNoLiteral(t *testing.T) {
	l := []int{4, 2, 4, 3}
	for _, x := range wrong {
		if Has(l, x) {
			t.Errorf("Has(%v, %d)", l, x)
		}
		for _, bad := range spoiled(l, x) {
			if !Has(bad, x) || !Has(bad, 2) || !Has(bad, 3) || !Has(bad, 4) || Has(bad, 0) || Has(bad, 5) || Has(bad, x+1) {
				t.Errorf("Has of %v: not just what is there", bad)
			}
		}
	}
}

// Promise 3.1: Resolve.

func TestResolve(t *testing.T) {
	for _, c := range []struct {
		a, b []int
		v    int
		want []int
	}{
		{[]int{0, 2}, []int{1, 4}, 0, []int{2, 4}},
		{[]int{2, 0}, []int{4, 1}, 0, []int{2, 4}},
		{[]int{4, 0}, []int{1, 2}, 0, []int{2, 4}},
		{[]int{9, 6, 2}, []int{12, 7, 3, 0}, 3, []int{0, 2, 3, 9, 12}},
		{[]int{9, 6, 2}, []int{12, 7, 3, 0}, 1, []int{0, 6, 7, 9, 12}},
		// The empty clause.
		{[]int{0}, []int{1}, 0, nil},
		{[]int{6}, []int{7}, 3, nil},
		{[]int{0, 0, 0}, []int{1, 1}, 0, nil},
		// One side alone, and both sides alike.
		{[]int{0}, []int{1, 4, 3}, 0, []int{3, 4}},
		{[]int{5, 0, 2}, []int{1}, 0, []int{2, 5}},
		{[]int{0, 4, 2}, []int{2, 1, 4}, 0, []int{2, 4}},
		// Literals that are there several times.
		{[]int{4, 0, 4, 0, 2}, []int{1, 4, 1, 6, 6, 1}, 0, []int{2, 4, 6}},
		// The other literal of v stays, on either side.
		{[]int{0, 1}, []int{1}, 0, []int{1}},
		{[]int{0}, []int{1, 0}, 0, []int{0}},
		{[]int{0, 1}, []int{0, 1}, 0, []int{0, 1}},
		{[]int{3, 2, 8}, []int{3, 6}, 1, []int{3, 6, 8}},
		{[]int{2, 8}, []int{3, 6, 2}, 1, []int{2, 6, 8}},
		{[]int{3, 2, 8}, []int{6, 2, 3}, 1, []int{2, 3, 6, 8}},
		// What comes out may always hold.
		{[]int{0, 2}, []int{1, 3}, 0, []int{2, 3}},
		// Great variables.
		{[]int{2 * great, 1}, []int{2*great + 1, 0}, great, []int{0, 1}},
		{[]int{math.MaxInt - 1, 4}, []int{2, math.MaxInt}, greatest, []int{2, 4}},
		{[]int{math.MaxInt - 1}, []int{math.MaxInt}, greatest, nil},
		{[]int{0, math.MaxInt}, []int{math.MaxInt - 1, 1}, 0, []int{math.MaxInt - 1, math.MaxInt}},
	} {
		if got, e := Resolve(c.a, c.b, c.v); !slices.Equal(got, c.want) || e != api.OK {
			t.Errorf("Resolve(%v, %v, %d) = %v, %d, want %v", c.a, c.b, c.v, got, e, c.want)
		}
	}
}

func TestResolveOfAllShortLists(t *testing.T) {
	const top = 6
	all := lists(3, top)
	for _, a := range all {
		for _, b := range all {
			for v := -1; v <= top/2; v++ {
				got, e := Resolve(a, b, v)
				if v < 0 || !slices.Contains(a, 2*v) || !slices.Contains(b, 2*v+1) {
					if len(got) != 0 || e != api.ErrNone {
						t.Errorf("Resolve(%v, %v, %d) = %v, %d, want nothing, ErrNone", a, b, v, got, e)
					}
					continue
				}
				want, _ := plainNormal(append(others(a, 2*v), others(b, 2*v+1)...), top)
				if !slices.Equal(got, want) || e != api.OK {
					t.Errorf("Resolve(%v, %v, %d) = %v, %d, want %v", a, b, v, got, e, want)
				}
			}
		}
	}
}

func TestResolveOfTheSameList(t *testing.T) {
	for _, c := range []struct {
		l    []int
		v    int
		want []int
	}{
		{[]int{0, 1}, 0, []int{0, 1}},
		{[]int{5, 2, 4, 9}, 2, []int{2, 4, 5, 9}},
		{[]int{7, 6, 6, 7}, 3, []int{6, 7}},
	} {
		before := slices.Clone(c.l)
		if got, e := Resolve(c.l, c.l, c.v); !slices.Equal(got, c.want) || e != api.OK {
			t.Errorf("Resolve of %v and itself by %d = %v, %d, want %v", before, c.v, got, e, c.want)
		}
		if !slices.Equal(c.l, before) {
			t.Errorf("Resolve of %v and itself changed it to %v", before, c.l)
		}
	}
	one := []int{0}
	if got, e := Resolve(one, one, 0); len(got) != 0 || e != api.ErrNone {
		t.Errorf("Resolve of %v and itself = %v, %d, want nothing, ErrNone", one, got, e)
	}
}

func TestResolveOfNone(t *testing.T) {
	for _, c := range []struct {
		a, b []int
		v    int
	}{
		{nil, nil, 0},
		{[]int{}, []int{}, 0},
		{nil, []int{1}, 0},
		{[]int{0}, nil, 0},
		{[]int{}, []int{1, 0}, 0},
		{[]int{0, 1}, []int{}, 0},
		{[]int{2}, []int{1, 4}, 0},
		{[]int{0, 2}, []int{4}, 0},
		{[]int{2}, []int{4}, 0},
		{[]int{0, 2}, []int{1, 4}, 1},
		{[]int{0, 2}, []int{1, 4}, 2},
		{[]int{0, 2}, []int{1, 4}, 3},
		// The other way round.
		{[]int{1, 4}, []int{0, 2}, 0},
		{[]int{1}, []int{0}, 0},
		{[]int{0}, []int{0}, 0},
		{[]int{1}, []int{1}, 0},
		{[]int{7}, []int{6}, 3},
		{[]int{2*great + 1}, []int{2 * great}, great},
		// Literals at the ends, which no other variable has.
		{[]int{0, math.MaxInt - 1}, []int{1, math.MaxInt}, greatest - 1},
		{[]int{0, math.MaxInt - 1}, []int{1, math.MaxInt}, greatest + 1},
	} {
		if got, e := Resolve(c.a, c.b, c.v); len(got) != 0 || e != api.ErrNone {
			t.Errorf("Resolve(%v, %v, %d) = %v, %d, want nothing, ErrNone", c.a, c.b, c.v, got, e)
		}
	}
}

func TestResolveByNoVariable(t *testing.T) {
	for _, v := range append(slices.Clone(wrong), math.MinInt/2, math.MinInt/2-1, math.MaxInt/2+1, math.MaxInt-1, math.MaxInt) {
		for _, c := range [][2][]int{
			{nil, nil},
			{{0}, {1}},
			{{0, 2}, {1, 4}},
			{{0, 1}, {0, 1}},
			{{0, 1, 2, 3, math.MaxInt - 1, math.MaxInt}, {0, 1, 2, 3, math.MaxInt - 1, math.MaxInt}},
		} {
			if got, e := Resolve(c[0], c[1], v); len(got) != 0 || e != api.ErrNone {
				t.Errorf("Resolve(%v, %v, %d) = %v, %d, want nothing, ErrNone", c[0], c[1], v, got, e)
			}
		}
	}
}

func TestResolveOfNoLiteral(t *testing.T) {
	variables := append([]int{0, 1, 7, math.MaxInt}, wrong...)
	refused := func(a, b []int) {
		t.Helper()
		for _, v := range variables {
			if got, e := Resolve(a, b, v); len(got) != 0 || e != api.ErrVar {
				t.Errorf("Resolve(%v, %v, %d) = %v, %d, want nothing, ErrVar", a, b, v, got, e)
			}
		}
	}
	for _, x := range wrong {
		for _, c := range [][2][]int{{nil, nil}, {{0, 2}, {1, 4}}, {{1, 4}, {0, 2}}, {{2, 6, 4}, {8, 8, 3}}} {
			for _, a := range spoiled(c[0], x) {
				refused(a, c[1])
				for _, b := range spoiled(c[1], x) {
					refused(c[0], b)
					refused(a, b)
				}
			}
		}
	}
}

// Promise 3.1: Within.

func TestWithin(t *testing.T) {
	for _, c := range []struct {
		a, b []int
		want bool
	}{
		{nil, nil, true},
		{nil, []int{}, true},
		{[]int{}, nil, true},
		{nil, []int{4, 5}, true},
		{[]int{5}, nil, false},
		{[]int{5}, []int{}, false},
		{[]int{5}, []int{5}, true},
		{[]int{5}, []int{4}, false},
		{[]int{5}, []int{4, 5}, true},
		{[]int{5}, []int{5, 4}, true},
		{[]int{4, 5}, []int{5}, false},
		{[]int{5, 4}, []int{5}, false},
		{[]int{0, 2, 4}, []int{4, 2, 0}, true},
		{[]int{4, 2, 0}, []int{0, 2, 4}, true},
		{[]int{0, 2, 4}, []int{9, 4, 7, 2, 1, 0}, true},
		{[]int{1, 2, 4}, []int{0, 2, 4}, false},
		{[]int{0, 3, 4}, []int{0, 2, 4}, false},
		{[]int{0, 2, 5}, []int{0, 2, 4}, false},
		// How often one is there does not matter, nor which list is longer.
		{[]int{3, 3, 3}, []int{3}, true},
		{[]int{3}, []int{3, 3, 3}, true},
		{[]int{3, 3, 2}, []int{3, 3, 3}, false},
		{[]int{2, 3, 2, 3}, []int{3, 2}, true},
		{[]int{0, math.MaxInt}, []int{math.MaxInt, 1, 0}, true},
		{[]int{math.MaxInt}, []int{math.MaxInt - 1}, false},
	} {
		if got := Within(c.a, c.b); got != c.want {
			t.Errorf("Within(%v, %v) = %t", c.a, c.b, got)
		}
	}
}

func TestWithinOfAllShortLists(t *testing.T) {
	all := lists(4, 4)
	for _, a := range all {
		for _, b := range all {
			want := true
			for _, x := range a {
				want = want && slices.Contains(b, x)
			}
			if got := Within(a, b); got != want {
				t.Errorf("Within(%v, %v) = %t", a, b, got)
			}
		}
	}
}

func TestWithinOfLongLists(t *testing.T) {
	const size = 200000
	up, down := make([]int, size), make([]int, size)
	for i := range size {
		up[i], down[size-1-i] = i, i
	}
	if !Within(up, down) || !Within(down, up) {
		t.Errorf("long lists of the same are not within each other")
	}
	if Within(append(up, size), down) {
		t.Errorf("a long list with one more is within the other")
	}
}

func TestWithinOfNoLiteral(t *testing.T) {
	l := []int{4, 2, 4, 3}
	for _, x := range wrong {
		for _, bad := range spoiled(l, x) {
			if !Within(l, bad) || Within(bad, l) || !Within(bad, bad) || Within(bad, nil) || !Within(nil, bad) ||
				!Within([]int{x}, bad) || !Within(bad, []int{2, x, 3, 4}) {
				t.Errorf("Within of %v: not by what is there", bad)
			}
		}
	}
}

// Promise 3.1, and R4: what is handed in stays as it is.

func TestNothingIsChanged(t *testing.T) {
	cases := [][2][]int{{{0, 2}, {1, 4}}, {{4, 0, 4, 2, 0}, {6, 1, 6, 1, 4}}, {{0}, {1}}, {{1, 0}, {1, 0}},
		{{9, 7, 0}, {8, 1}}, {{9, 7, 5}, {8, 3}}, {nil, nil}, {{0, -1, 0}, {3, 1}}, {{3, 0}, {1, -5, -5, 0}}}
	for _, c := range cases {
		unchanged(t, "Normal", c[0], c[1], func(a, b []int) { Normal(a); Normal(b) })
		unchanged(t, "Has", c[0], c[1], func(a, b []int) { Has(a, 2); Has(b, 9) })
		unchanged(t, "Resolve", c[0], c[1], func(a, b []int) { Resolve(a, b, 0); Resolve(b, a, 0) })
		unchanged(t, "Resolve", c[0], c[1], func(a, b []int) { Resolve(a, a, 0); Resolve(b, b, 0) })
		unchanged(t, "Within", c[0], c[1], func(a, b []int) { Within(a, b); Within(b, a); Within(a, a) })
		unchanged(t, "Holds", c[0], c[1], func(a, b []int) {
			m := []bool{true, false, true, true}
			Holds(a, m[:2])
			Holds(b, m[:2])
			if !slices.Equal(m, []bool{true, false, true, true}) {
				t.Errorf("Holds changed the truths to %v", m)
			}
		})
	}
}

// Two lists that share memory, of which one is the other's beginning or end.
func TestListsThatOverlap(t *testing.T) {
	l := []int{6, 0, 2, 1, 4}
	before := slices.Clone(l)
	if got, e := Resolve(l[:3], l, 0); !slices.Equal(got, []int{0, 2, 4, 6}) || e != api.OK {
		t.Errorf("Resolve of the beginning and all of %v = %v, %d", before, got, e)
	}
	if got, e := Resolve(l[:3], l[2:], 0); !slices.Equal(got, []int{2, 4, 6}) || e != api.OK {
		t.Errorf("Resolve of the beginning and the end of %v = %v, %d", before, got, e)
	}
	if !Within(l[1:3], l) || Within(l, l[1:]) || !Within(l, l) {
		t.Errorf("Within of pieces of %v", before)
	}
	if !slices.Equal(l, before) {
		t.Errorf("%v became %v", before, l)
	}
}

// What is handed out is memory of its own.
func TestAnswersAreNew(t *testing.T) {
	a, b := []int{0, 2, 6}, []int{1, 4, 8}
	n, _, _ := Normal(a)
	r, _ := Resolve(a, b, 0)
	s, _ := Resolve(a, []int{1}, 0)
	for _, l := range [][]int{n, r, s} {
		l = l[:cap(l)]
		for i := range l {
			l[i] = -7
		}
	}
	if !slices.Equal(a, []int{0, 2, 6}) || !slices.Equal(b, []int{1, 4, 8}) {
		t.Errorf("the lists handed in became %v, %v", a, b)
	}
}

// Promise 3.2.

func TestWhatHoldsInBothHoldsInTheResolved(t *testing.T) {
	const variables = 3
	all := lists(3, 2*variables)
	worlds := truths(variables)
	resolved := 0
	for _, a := range all {
		for _, b := range all {
			for v := range variables {
				r, e := Resolve(a, b, v)
				if e != api.OK {
					continue
				}
				resolved++
				for _, m := range worlds {
					if Holds(a, m) && Holds(b, m) && !Holds(r, m) {
						t.Errorf("%v and %v hold in %v, but not %v, to which they are Resolved by %d", a, b, m, r, v)
					}
				}
			}
		}
	}
	// A Resolve that refuses all would pass what is above.
	if resolved != countResolvable(all, variables) {
		t.Errorf("%d were Resolved, of %d that can be", resolved, countResolvable(all, variables))
	}
}

func countResolvable(all [][]int, variables int) int {
	n := 0
	for v := range variables {
		left, right := 0, 0
		for _, l := range all {
			if slices.Contains(l, 2*v) {
				left++
			}
			if slices.Contains(l, 2*v+1) {
				right++
			}
		}
		n += left * right
	}
	return n
}

// The empty clause, which never holds, comes of two that never hold at once.
func TestTheEmptyClauseIsResolvedOfOpposites(t *testing.T) {
	for v := range 3 {
		a, b := []int{2 * v}, []int{2*v + 1}
		r, e := Resolve(a, b, v)
		if len(r) != 0 || e != api.OK {
			t.Errorf("Resolve(%v, %v, %d) = %v, %d, want the empty clause", a, b, v, r, e)
		}
		for _, m := range truths(3) {
			if Holds(r, m) || Holds(a, m) && Holds(b, m) {
				t.Errorf("%v, %v and %v in %v", a, b, r, m)
			}
		}
	}
}
