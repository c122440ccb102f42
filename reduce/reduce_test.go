package reduce

import (
	"fmt"
	"math"
	"math/rand"
	"slices"
	"sync"
	"testing"

	"breakwater/api"
)

// edges are numbers at which a difference, or a half, may go wrong.
var edges = []int{math.MinInt, math.MinInt + 1, math.MinInt / 2, math.MinInt32, -2, -1, 0, 1, 2, 3,
	math.MaxInt32, math.MaxInt / 2, math.MaxInt - 1, math.MaxInt}

func of(glue, activity, size int) api.Learned {
	return api.Learned{Glue: glue, Activity: activity, Size: size}
}

// glues are clauses of Size 9 and Activity 0, with these Glues.
func glues(gs ...int) []api.Learned {
	var l []api.Learned
	for _, g := range gs {
		l = append(l, of(g, 0, 9))
	}
	return l
}

// all are the clauses whose numbers are each one of these.
func all(numbers ...int) []api.Learned {
	var l []api.Learned
	for _, g := range numbers {
		for _, a := range numbers {
			for _, s := range numbers {
				l = append(l, of(g, a, s))
			}
		}
	}
	return l
}

// plainBetter is what the chapter says, word by word.
func plainBetter(a, b api.Learned) bool {
	if a.Glue < b.Glue {
		return true
	}
	if a.Glue > b.Glue {
		return false
	}
	if a.Activity > b.Activity {
		return true
	}
	if a.Activity < b.Activity {
		return false
	}
	return a.Size < b.Size
}

func plainAlways(c api.Learned) bool { return c.Glue <= 2 || c.Size <= 2 }

// plainKeep takes the best of those that are left, the first of ones that are
// alike, one behind the other, till as many are taken as are left.
func plainKeep(l []api.Learned) []bool {
	kept := make([]bool, len(l))
	left := 0
	for i, c := range l {
		if kept[i] = plainAlways(c); !kept[i] {
			left++
		}
	}
	for taken := 0; taken < left; taken++ {
		best := -1
		for i, c := range l {
			if !kept[i] && (best < 0 || plainBetter(c, l[best])) {
				best = i
			}
		}
		kept[best] = true
		left--
	}
	return kept
}

// ask calls Keep, and asks that it changes nothing, also behind the list's end,
// and that it tells the same when it is called again.
func ask(t *testing.T, l []api.Learned) []bool {
	t.Helper()
	whole := append(slices.Clone(l), of(7, 7, 7), of(1, 1, 1))
	was := slices.Clone(whole)
	got := Keep(whole[:len(l)])
	if !slices.Equal(whole, was) {
		t.Fatalf("Keep(%v) changed the list to %v", short(was[:len(l)]), short(whole))
	}
	if again := Keep(whole[:len(l)]); !slices.Equal(again, got) {
		t.Fatalf("Keep(%v) = %v, and then %v", short(l), short(got), short(again))
	}
	if len(got) != len(l) {
		t.Fatalf("Keep(%v) tells of %d clauses, want %d", short(l), len(got), len(l))
	}
	return got
}

// short is what is shown of a list.
func short[E any](l []E) string {
	if len(l) > 40 {
		return fmt.Sprintf("%v .. (%d)", l[:40], len(l))
	}
	return fmt.Sprint(l)
}

// keeps asks that just the clauses at these places are kept.
func keeps(t *testing.T, l []api.Learned, places ...int) {
	t.Helper()
	want := make([]bool, len(l))
	for _, p := range places {
		want[p] = true
	}
	if got := ask(t, l); !slices.Equal(got, want) {
		t.Errorf("Keep(%v) = %v, want %v", short(l), short(got), short(want))
	}
	if plain := plainKeep(l); !slices.Equal(plain, want) {
		t.Errorf("the plain counterpart of %v tells %v, want %v", short(l), short(plain), short(want))
	}
}

// goesPlain asks that each answer is the plain counterpart's.
func goesPlain(t *testing.T, l []api.Learned) {
	t.Helper()
	if got, want := ask(t, l), plainKeep(l); !slices.Equal(got, want) {
		t.Fatalf("Keep(%v) = %v, want %v", short(l), short(got), short(want))
	}
}

// isSound asks what must hold of an answer, with no look at how it is come by:
// it can be asked of lists that are too long for the plain counterpart.
func isSound(t *testing.T, l []api.Learned, kept []bool) {
	t.Helper()
	others, stay := 0, 0
	worst, best := -1, -1 // the worst that is kept, the best that is gone
	for i, c := range l {
		if plainAlways(c) {
			if !kept[i] {
				t.Fatalf("%v at %d of %v is gone", c, i, short(l))
			}
			continue
		}
		others++
		if kept[i] {
			stay++
			if worst < 0 || !plainBetter(c, l[worst]) {
				worst = i // of ones that are alike the last
			}
		} else if best < 0 || plainBetter(c, l[best]) {
			best = i // of ones that are alike the first
		}
	}
	if want := others/2 + others%2; stay != want {
		t.Fatalf("%d of %d others of %v are kept, want %d", stay, others, short(l), want)
	}
	if worst < 0 || best < 0 {
		return
	}
	if plainBetter(l[best], l[worst]) {
		t.Fatalf("of %v the clause %v at %d is gone, and the worse %v at %d is kept", short(l), l[best], best, l[worst], worst)
	}
	if l[best] == l[worst] && best < worst {
		t.Fatalf("of %v the clause %v at %d is gone, and the same at %d is kept", short(l), l[best], best, worst)
	}
}

// inOrder are the clauses that are kept, as a list that does not hang on places.
func inOrder(l []api.Learned, kept []bool) []api.Learned {
	var out []api.Learned
	for i, c := range l {
		if kept[i] {
			out = append(out, c)
		}
	}
	slices.SortFunc(out, func(a, b api.Learned) int {
		switch {
		case plainBetter(a, b):
			return -1
		case plainBetter(b, a):
			return 1
		}
		return 0
	})
	return out
}

// Promise 13.1: Better.

func isBetter(t *testing.T, a, b api.Learned) {
	t.Helper()
	if !Better(a, b) {
		t.Errorf("Better(%v, %v) = false", a, b)
	}
	if Better(b, a) {
		t.Errorf("Better(%v, %v) = true", b, a)
	}
}

func TestBetterByTheLesserGlue(t *testing.T) {
	isBetter(t, of(3, 0, 9), of(4, 0, 9))
	for _, x := range all(edges...) {
		// Whatever Activity and Size are: those of x and those of the others.
		for _, y := range []api.Learned{x, of(x.Glue, 0, 0), of(x.Glue, math.MinInt, math.MaxInt), of(x.Glue, math.MaxInt, math.MinInt)} {
			for _, glue := range edges {
				if y.Glue = glue; x.Glue < glue {
					isBetter(t, x, y)
				}
			}
		}
	}
}

func TestBetterByTheGreaterActivity(t *testing.T) {
	isBetter(t, of(3, 2, 9), of(3, 1, 9))
	for _, x := range all(edges...) {
		for _, size := range edges {
			for _, activity := range edges {
				if x.Activity > activity {
					isBetter(t, x, of(x.Glue, activity, size))
				}
			}
		}
	}
}

func TestBetterByTheLesserSize(t *testing.T) {
	isBetter(t, of(3, 2, 8), of(3, 2, 9))
	for _, x := range all(edges...) {
		for _, size := range edges {
			if x.Size < size {
				isBetter(t, x, of(x.Glue, x.Activity, size))
			}
		}
	}
}

func TestOfOnesThatAreAlikeNeitherIsBetter(t *testing.T) {
	for _, x := range append(all(edges...), api.Learned{}) {
		if Better(x, x) {
			t.Errorf("Better(%v, %v) = true", x, x)
		}
	}
}

func TestBetterAsTheWordsSay(t *testing.T) {
	l := all(math.MinInt, -1, 0, 1, 2, 3, math.MaxInt)
	for _, x := range l {
		for _, y := range l {
			if got, want := Better(x, y), plainBetter(x, y); got != want {
				t.Fatalf("Better(%v, %v) = %v, want %v", x, y, got, want)
			}
		}
	}
	r := rand.New(rand.NewSource(1))
	for range 200000 {
		x, y := anywhere(r), anywhere(r)
		if got, want := Better(x, y), plainBetter(x, y); got != want {
			t.Fatalf("Better(%v, %v) = %v, want %v", x, y, got, want)
		}
	}
}

// anywhere is a clause with any numbers at all.
func anywhere(r *rand.Rand) api.Learned {
	number := func() int {
		if r.Intn(2) == 0 {
			return edges[r.Intn(len(edges))]
		}
		return int(r.Uint64())
	}
	return of(number(), number(), number())
}

func TestBetterIsAnOrder(t *testing.T) {
	l := all(math.MinInt, 0, 2, 3, math.MaxInt)
	better := make([][]bool, len(l))
	for i, x := range l {
		for _, y := range l {
			better[i] = append(better[i], Better(x, y))
		}
	}
	for i := range l {
		for j := range l {
			if better[i][j] && better[j][i] {
				t.Fatalf("%v and %v are better than each other", l[i], l[j])
			}
			if i != j && !better[i][j] && !better[j][i] {
				t.Fatalf("neither of %v and %v is better", l[i], l[j])
			}
			for k := range l {
				if better[i][j] && better[j][k] && !better[i][k] {
					t.Fatalf("%v is better than %v, this than %v, and the first not than the last", l[i], l[j], l[k])
				}
			}
		}
	}
}

// Promise 13.1: Keep.

func TestTheExample(t *testing.T) {
	keeps(t, glues(5, 3, 4), 1, 2)
}

func TestKeepOfNone(t *testing.T) {
	for _, l := range [][]api.Learned{nil, {}, make([]api.Learned, 0, 4)} {
		if got := Keep(l); len(got) != 0 {
			t.Errorf("Keep(%v) = %v", l, got)
		}
	}
}

func TestKeepTellsEachAtItsPlace(t *testing.T) {
	keeps(t, glues(9, 8, 7, 6, 5, 4), 3, 4, 5)
	keeps(t, glues(4, 5, 6, 7, 8, 9), 0, 1, 2)
	keeps(t, glues(9, 4, 8, 5, 7, 6), 1, 3, 5)
	keeps(t, []api.Learned{of(9, 0, 9), of(1, 0, 9), of(8, 0, 9), of(9, 0, 1), of(7, 0, 9)}, 1, 2, 3, 4)
	for n := 2; n < 40; n++ {
		for at := range n {
			// All are alike but for one, which is better first, and then worse.
			l := glues(slices.Repeat([]int{5}, n)...)
			l[at].Activity++
			if got := ask(t, l); !got[at] {
				t.Errorf("the best of %d, at %d, is gone", n, at)
			}
			l[at].Activity -= 2
			if got := ask(t, l); got[at] {
				t.Errorf("the worst of %d, at %d, is kept", n, at)
			}
		}
	}
}

func TestKeepWhoseGlueIsAtMost2(t *testing.T) {
	better := glues(3, 3, 3, 3)
	for _, glue := range []int{2, 1, 0, -1, math.MinInt} {
		keeps(t, append(slices.Clone(better), of(glue, math.MinInt, math.MaxInt)), 0, 1, 4)
		keeps(t, []api.Learned{of(glue, math.MinInt, math.MaxInt), of(glue, 0, 3), of(glue, 0, 9)}, 0, 1, 2)
	}
	// A Glue of 3 is one of the others.
	keeps(t, append(slices.Clone(better), of(3, math.MinInt, math.MaxInt)), 0, 1, 2)
	keeps(t, glues(2, 3, 3), 0, 1)
	keeps(t, glues(3, 3, 2), 0, 2)
	keeps(t, glues(2, 2, 2, 2, 2), 0, 1, 2, 3, 4)
	keeps(t, glues(3, 3, 3, 3, 3), 0, 1, 2)
}

func TestKeepWhoseSizeIsAtMost2(t *testing.T) {
	better := glues(3, 3, 3, 3)
	for _, size := range []int{2, 1, 0, -1, math.MinInt} {
		keeps(t, append(slices.Clone(better), of(math.MaxInt, math.MinInt, size)), 0, 1, 4)
		keeps(t, []api.Learned{of(math.MaxInt, math.MinInt, size), of(3, 0, size), of(9, 0, size)}, 0, 1, 2)
	}
	// A Size of 3 is one of the others.
	keeps(t, append(slices.Clone(better), of(math.MaxInt, math.MinInt, 3)), 0, 1, 2)
	keeps(t, []api.Learned{of(9, 0, 2), of(9, 0, 3), of(9, 0, 3)}, 0, 1)
	keeps(t, []api.Learned{of(9, 0, 3), of(9, 0, 3), of(9, 0, 2)}, 0, 2)
}

func TestGlueAndSizeAtTheEdge(t *testing.T) {
	two := []api.Learned{of(3, 1, 9), of(3, 2, 9)}
	for glue := 1; glue <= 4; glue++ {
		for size := 1; size <= 4; size++ {
			// Beside two that are better than it, a third is the last of
			// three others, or none of the others.
			l := append(slices.Clone(two), of(glue, 0, size))
			if glue >= 3 && size >= 3 {
				keeps(t, l, 0, 1)
			} else {
				keeps(t, l, 1, 2)
			}
		}
	}
	keeps(t, []api.Learned{of(2, 0, 2), of(2, 0, 3), of(3, 0, 2), of(3, 0, 3), of(3, 0, 3)}, 0, 1, 2, 3)
}

func TestThoseThatAreKeptAnywayDoNotCount(t *testing.T) {
	for anyway := range 12 {
		for others := range 12 {
			var l []api.Learned
			var want []int
			for i := range anyway {
				want = append(want, len(l))
				l = append(l, []api.Learned{of(2, 0, 9), of(9, 0, 2), of(1, 0, 1)}[i%3])
			}
			for i := range others {
				if i < (others+1)/2 {
					want = append(want, len(l))
				}
				l = append(l, of(3+i, 0, 9))
			}
			keeps(t, l, want...)
			slices.Reverse(l)
			for i := range want {
				want[i] = len(l) - 1 - want[i]
			}
			keeps(t, l, want...)
		}
	}
}

func TestTheBetterHalfRoundedUp(t *testing.T) {
	keeps(t, nil)
	keeps(t, glues(3), 0)
	keeps(t, glues(math.MaxInt), 0)
	keeps(t, glues(3, 4), 0)
	keeps(t, glues(4, 3), 1)
	keeps(t, glues(3, 4, 5), 0, 1)
	keeps(t, glues(6, 5, 4, 3), 2, 3)
	keeps(t, glues(7, 6, 5, 4, 3), 2, 3, 4)
	for n := range 200 {
		var l []api.Learned
		for i := range n {
			l = append(l, of(3+i, i, 3))
		}
		up, down := ask(t, l), 0
		for i, kept := range up {
			if kept != (i < (n+1)/2) {
				t.Fatalf("of %d: Keep at %d = %v", n, i, kept)
			}
		}
		slices.Reverse(l)
		for _, kept := range ask(t, l) {
			if kept {
				down++
			}
		}
		if down != (n+1)/2 {
			t.Fatalf("of %d there are %d kept", n, down)
		}
	}
}

func TestTheHalfByActivityAndSize(t *testing.T) {
	keeps(t, []api.Learned{of(5, 1, 9), of(5, 2, 9), of(5, 3, 9), of(5, 4, 9)}, 2, 3)
	keeps(t, []api.Learned{of(5, 4, 9), of(5, 3, 3), of(5, 2, 3), of(5, 1, 3)}, 0, 1)
	keeps(t, []api.Learned{of(5, 1, 9), of(5, 1, 6), of(5, 1, 7), of(5, 1, 8)}, 1, 2)
	keeps(t, []api.Learned{of(4, 0, 99), of(5, 99, 3), of(5, 98, 3), of(4, 0, 98)}, 0, 3)
	keeps(t, []api.Learned{of(5, 1, 4), of(5, 1, 3), of(4, 0, 9), of(5, 2, 9), of(6, 9, 3)}, 1, 2, 3)
}

func TestOfOnesThatAreAlikeTheFirst(t *testing.T) {
	// All are alike.
	for n := range 100 {
		var want []int
		for i := range (n + 1) / 2 {
			want = append(want, i)
		}
		keeps(t, glues(slices.Repeat([]int{5}, n)...), want...)
	}
	// The bound falls between ones that are alike.
	keeps(t, glues(3, 5, 5, 5, 5, 9), 0, 1, 2)
	keeps(t, glues(9, 5, 5, 5, 5, 3), 1, 2, 5)
	keeps(t, glues(5, 3, 5, 3, 5, 3, 5), 0, 1, 3, 5)
	keeps(t, glues(5, 9, 5, 9, 5), 0, 2, 4)
	// And just between two that are not.
	keeps(t, glues(5, 3, 5, 3), 1, 3)
	keeps(t, glues(5, 5, 5, 3, 3, 3), 3, 4, 5)
	// One better than all others leaves one place fewer for these.
	keeps(t, glues(5, 5, 5, 5, 5, 5, 3), 0, 1, 2, 6)
}

func TestOnesThatAreAlikeAndFarFromEachOther(t *testing.T) {
	for n := 3; n < 300; n += 7 {
		// n better and n worse stand between two that are alike, of which the
		// bound leaves just one.
		l := []api.Learned{of(5, 3, 7)}
		want := []int{0}
		for i := range n {
			want = append(want, len(l))
			l = append(l, of(4, i, 7), of(6, i, 7))
		}
		keeps(t, append(l, of(5, 3, 7)), want...)
	}
	// Thousands that go round: those of one kind stand apart from each other.
	var l []api.Learned
	for i := range 9001 {
		l = append(l, of(3+i*7%10, 0, 9))
	}
	goesPlain(t, l)
}

func TestWhateverOrderTheClausesComeIn(t *testing.T) {
	r := rand.New(rand.NewSource(2))
	for range 300 {
		l := someClauses(r, r.Intn(60), 2+r.Intn(4))
		want := inOrder(l, ask(t, l))
		for range 10 {
			r.Shuffle(len(l), func(i, j int) { l[i], l[j] = l[j], l[i] })
			if got := inOrder(l, ask(t, l)); !slices.Equal(got, want) {
				t.Fatalf("of %v there are kept %v, in another order %v", short(l), short(got), short(want))
			}
		}
	}
}

func TestAllOrdersOfFive(t *testing.T) {
	l := []api.Learned{of(3, 0, 9), of(3, 1, 9), of(3, 1, 4), of(4, 9, 3), of(2, 0, 9)}
	want := []api.Learned{of(2, 0, 9), of(3, 1, 4), of(3, 1, 9)}
	count := 0
	var permute func(k int)
	permute = func(k int) {
		if k == len(l) {
			count++
			if got := inOrder(l, ask(t, l)); !slices.Equal(got, want) {
				t.Errorf("of %v there are kept %v, want %v", l, got, want)
			}
			return
		}
		for i := k; i < len(l); i++ {
			l[k], l[i] = l[i], l[k]
			permute(k + 1)
			l[k], l[i] = l[i], l[k]
		}
	}
	permute(0)
	if count != 120 {
		t.Fatalf("%d orders", count)
	}
}

// Keep against its plain counterpart.

// someClauses are n with numbers that are often alike.
func someClauses(r *rand.Rand, n, span int) []api.Learned {
	var l []api.Learned
	for range n {
		l = append(l, of(1+r.Intn(span+1), r.Intn(span), 1+r.Intn(span+2)))
	}
	return l
}

func TestAllShortLists(t *testing.T) {
	// Each list of at most five of these: kept anyway, and others of which
	// each differs from the next in one number, or two.
	kinds := []api.Learned{of(2, 0, 3), of(3, 0, 2), of(3, 0, 3), of(3, 1, 3), of(3, 0, 4), of(3, 1, 4), of(4, 2, 3)}
	var l []api.Learned
	var longer func(n int)
	longer = func(n int) {
		goesPlain(t, l)
		isSound(t, l, Keep(l))
		if n == 0 {
			return
		}
		for _, k := range kinds {
			l = append(l, k)
			longer(n - 1)
			l = l[:len(l)-1]
		}
	}
	longer(5)
}

func TestSmallLists(t *testing.T) {
	r := rand.New(rand.NewSource(3))
	for range 20000 {
		l := someClauses(r, r.Intn(16), 1+r.Intn(5))
		goesPlain(t, l)
		isSound(t, l, Keep(l))
	}
}

func TestLargerLists(t *testing.T) {
	r := rand.New(rand.NewSource(4))
	for range 150 {
		l := someClauses(r, 100+r.Intn(900), 1+r.Intn(12))
		goesPlain(t, l)
		isSound(t, l, Keep(l))
	}
}

func TestListsOfAnyNumbers(t *testing.T) {
	r := rand.New(rand.NewSource(5))
	for range 3000 {
		var l []api.Learned
		for range r.Intn(30) {
			l = append(l, anywhere(r))
		}
		goesPlain(t, l)
		isSound(t, l, Keep(l))
	}
}

// Wrong inputs.

func TestKeepOfNumbersOutToTheEnds(t *testing.T) {
	for _, x := range edges {
		for _, y := range edges {
			goesPlain(t, glues(x, y))
			goesPlain(t, glues(x, y, x))
			goesPlain(t, []api.Learned{of(9, x, 9), of(9, y, 9)})
			goesPlain(t, []api.Learned{of(9, 0, x), of(9, 0, y), of(9, 0, x)})
			goesPlain(t, []api.Learned{of(x, x, x), of(y, y, y), of(x, y, x), of(y, x, y)})
		}
	}
	keeps(t, []api.Learned{of(9, math.MinInt, 9), of(9, math.MaxInt, 9)}, 1)
	keeps(t, []api.Learned{of(9, math.MaxInt, 9), of(9, math.MinInt, 9)}, 0)
	keeps(t, []api.Learned{of(9, -2, 9), of(9, math.MaxInt, 9)}, 1)
	keeps(t, []api.Learned{of(9, math.MinInt, 9), of(9, 1, 9)}, 1)
	keeps(t, []api.Learned{of(math.MaxInt, 0, 9), of(3, 0, 9)}, 1)
	keeps(t, []api.Learned{of(9, 0, math.MaxInt), of(9, 0, 3)}, 1)
	keeps(t, []api.Learned{{}, {}, {}}, 0, 1, 2)
	goesPlain(t, all(edges...))
	isSound(t, all(edges...), Keep(all(edges...)))
}

func TestGreatLists(t *testing.T) {
	const n = 1 << 20
	r := rand.New(rand.NewSource(6))
	shapes := []struct {
		name string
		at   func(i int) api.Learned
	}{
		{"alike", func(i int) api.Learned { return of(5, 5, 5) }},
		{"rising", func(i int) api.Learned { return of(3+i, 0, 9) }},
		{"falling", func(i int) api.Learned { return of(3+n-i, 0, 9) }},
		{"up and down", func(i int) api.Learned { return of(3+min(i, n-i), 0, 9) }},
		{"in teeth", func(i int) api.Learned { return of(3+i%1000, i%7, 9) }},
		{"kept anyway", func(i int) api.Learned { return of(2, i, i) }},
		{"of few kinds", func(i int) api.Learned { return of(1+r.Intn(4), r.Intn(2), 1+r.Intn(4)) }},
		{"of any numbers", func(i int) api.Learned { return anywhere(r) }},
	}
	for _, shape := range shapes {
		l := make([]api.Learned, n-1)
		for i := range l {
			l[i] = shape.at(i)
		}
		was := slices.Clone(l)
		got := Keep(l)
		if !slices.Equal(l, was) {
			t.Errorf("the list %s was changed", shape.name)
		}
		if len(got) != len(l) {
			t.Fatalf("of the list %s there are %d answers, want %d", shape.name, len(got), len(l))
		}
		isSound(t, l, got)
	}
}

func TestAnswersAreNewMemory(t *testing.T) {
	l := glues(5, 3, 4)
	a := Keep(l)
	for i := range a {
		a[i] = !a[i]
	}
	a = append(a, true)
	if b := Keep(l); !slices.Equal(b, []bool{false, true, true}) {
		t.Errorf("an answer that was written to changed the next one to %v", b)
	}
	keeps(t, l, 1, 2)
}

func TestAListThatIsWrittenToLater(t *testing.T) {
	l := glues(5, 3, 4)
	got := Keep(l)
	l[0], l[1] = of(1, 9, 1), of(99, 0, 99)
	if !slices.Equal(got, []bool{false, true, true}) {
		t.Errorf("the answer changed to %v with the list", got)
	}
	keeps(t, l, 0, 2)
}

func TestTheSameAgain(t *testing.T) {
	r := rand.New(rand.NewSource(7))
	var lists [][]api.Learned
	var first [][]bool
	for range 50 {
		l := someClauses(r, r.Intn(200), 3)
		lists, first = append(lists, l), append(first, Keep(l))
	}
	// Other calls between two of the same play no part.
	for range 3 {
		for _, i := range r.Perm(len(lists)) {
			if got := Keep(slices.Clone(lists[i])); !slices.Equal(got, first[i]) {
				t.Fatalf("Keep(%v) = %v, later %v", short(lists[i]), short(first[i]), short(got))
			}
		}
	}
}

func TestAtTheSameTime(t *testing.T) {
	var wait sync.WaitGroup
	wrong := make([]string, 8)
	for worker := range wrong {
		wait.Go(func() {
			r := rand.New(rand.NewSource(int64(100 + worker)))
			for range 200 {
				l := someClauses(r, r.Intn(100), 3)
				if got, want := Keep(l), plainKeep(l); !slices.Equal(got, want) {
					wrong[worker] = fmt.Sprintf("Keep(%v) = %v, want %v", l, got, want)
				}
				x, y := anywhere(r), anywhere(r)
				if got, want := Better(x, y), plainBetter(x, y); got != want {
					wrong[worker] = fmt.Sprintf("Better(%v, %v) = %v, want %v", x, y, got, want)
				}
			}
		})
	}
	wait.Wait()
	for _, w := range wrong {
		if w != "" {
			t.Error(w)
		}
	}
}
