package luby

import (
	"math"
	"math/bits"
	"math/rand"
	"slices"
	"sync"
	"testing"
)

// plain follows the chapter's words, step by step: the number at place i.
func plain(i int) int {
	if i < 1 || i > 1<<40 {
		return 0
	}
	for k := 1; ; k++ {
		if i == 1<<k-1 {
			return 1 << (k - 1)
		}
		if 1<<(k-1) <= i && 1<<k-1 > i {
			return plain(i - 1<<(k-1) + 1)
		}
	}
}

// wrong are places that have no number.
func wrong() []int {
	w := []int{0, -1, -2, -3, -7, -8, -100000, -1 << 31, -1<<40 - 1, -1 << 40, -1<<40 + 1, math.MinInt, math.MinInt + 1,
		1<<40 + 1, 1<<40 + 2, 1<<40 + 3, 1<<41 - 2, 1<<41 - 1, 1 << 41, math.MaxInt - 1, math.MaxInt}
	for k := 41; k < 63; k++ {
		w = append(w, 1<<k-2, 1<<k-1, 1<<k, 1<<k+1, -1<<k)
	}
	return w
}

// Promise 9.1: Term.

func TestTermOfTheFirstPlaces(t *testing.T) {
	want := []int{1, 1, 2, 1, 1, 2, 4, 1, 1, 2, 1, 1, 2, 4, 8, 1, 1, 2, 1, 1, 2, 4, 1, 1, 2, 1, 1, 2, 4, 8, 16, 1}
	for at, w := range want {
		if got := Term(at + 1); got != w {
			t.Errorf("Term(%d) = %d, want %d", at+1, got, w)
		}
	}
}

func TestTermBesidePowersOfTwo(t *testing.T) {
	for k := 1; k <= 40; k++ {
		short, past := 1<<k>>2, 1
		if k == 1 {
			short, past = 0, 2 // place 0 is none; place 3 is 2^2 - 1
		}
		for i, want := range map[int]int{1<<k - 2: short, 1<<k - 1: 1 << (k - 1), 1 << k: 1} {
			if got := Term(i); got != want {
				t.Errorf("k %d: Term(%d) = %d, want %d", k, i, got, want)
			}
		}
		if k == 40 {
			past = 0 // no place any more
		}
		if got := Term(1<<k + 1); got != past {
			t.Errorf("k %d: Term(%d) = %d, want %d", k, 1<<k+1, got, past)
		}
	}
}

func TestTermAtTheLastPlaces(t *testing.T) {
	for i, want := range map[int]int{1<<40 - 2: 1 << 38, 1<<40 - 1: 1 << 39, 1 << 40: 1, 1<<40 + 1: 0, 1<<40 + 2: 0} {
		if got := Term(i); got != want {
			t.Errorf("Term(%d) = %d, want %d", i, got, want)
		}
	}
}

func TestTermAsTheWordsSay(t *testing.T) {
	for i := -100; i <= 1<<18; i++ {
		if got, want := Term(i), plain(i); got != want {
			t.Fatalf("Term(%d) = %d, want %d", i, got, want)
		}
	}
	for k := 1; k <= 41; k++ {
		for i := 1<<k - 300; i <= 1<<k+300; i++ {
			if got, want := Term(i), plain(i); got != want {
				t.Fatalf("Term(%d) = %d, want %d", i, got, want)
			}
		}
	}
	r := rand.New(rand.NewSource(9))
	for range 200000 {
		// Places of all lengths, half of them with more ones, which go back
		// the more often.
		i := r.Intn(1<<40) >> r.Intn(40)
		if r.Intn(2) == 0 {
			i |= r.Intn(1<<40) >> r.Intn(40)
		}
		if got, want := Term(i), plain(i); got != want {
			t.Fatalf("Term(%d) = %d, want %d", i, got, want)
		}
	}
}

func TestTermThatGoesBackTheMost(t *testing.T) {
	// Each of these goes back to the one ahead of it, and so on down to 2^n - 1.
	for n := 1; n < 40; n++ {
		i := 1<<n - 1
		for k := n; k < 40; k++ {
			if i += 1<<k - 1; i > 1<<40 {
				break
			}
			if got, want := Term(i), 1<<(n-1); got != want {
				t.Fatalf("Term(%d) = %d, want %d", i, got, want)
			}
		}
	}
}

func TestTermIsAPowerOfTwo(t *testing.T) {
	r := rand.New(rand.NewSource(10))
	for at := range 200000 {
		for _, i := range []int{at + 1, 1<<40 - at, 1 + r.Intn(1<<40)} {
			got := Term(i)
			if got < 1 || bits.OnesCount(uint(got)) != 1 {
				t.Fatalf("Term(%d) = %d, no power of two", i, got)
			}
			// What is at place i stood first at place 2*number - 1.
			if 2*got-1 > i {
				t.Fatalf("Term(%d) = %d, which is first at %d", i, got, 2*got-1)
			}
		}
	}
}

func TestTermComesAgain(t *testing.T) {
	for k := 1; k <= 39; k++ {
		whole := 1<<k - 1
		step := max(1, whole/5000) | 1
		for i := 1; i <= whole; i += step {
			if a, b := Term(i), Term(whole+i); a != b {
				t.Fatalf("k %d: Term(%d) = %d, but Term(%d) = %d", k, i, a, whole+i, b)
			}
		}
		if got := Term(2*whole + 1); got != 1<<k {
			t.Fatalf("k %d: Term(%d) = %d, want %d", k, 2*whole+1, got, 1<<k)
		}
	}
}

func TestTermOfNoPlace(t *testing.T) {
	for _, i := range wrong() {
		if got := Term(i); got != 0 {
			t.Errorf("Term(%d) = %d, want 0", i, got)
		}
	}
}

func TestTermAgain(t *testing.T) {
	for _, i := range append(wrong(), 1, 2, 3, 6, 7, 100000, 1<<40-1, 1<<40) {
		a := Term(i)
		Term(i + 1)
		Row(5)
		if b := Term(i); a != b {
			t.Errorf("Term(%d) = %d, then %d", i, a, b)
		}
	}
}

// Promise 9.1: Row.

func TestRowOfFew(t *testing.T) {
	all := []int{1, 1, 2, 1, 1, 2, 4, 1, 1, 2, 1, 1, 2, 4, 8, 1}
	for n := range len(all) + 1 {
		if got := Row(n); !slices.Equal(got, all[:n]) {
			t.Errorf("Row(%d) = %v, want %v", n, got, all[:n])
		}
	}
}

func TestRowOfMost(t *testing.T) {
	want := make([]int, 100000)
	for at := range want {
		want[at] = plain(at + 1)
	}
	for _, n := range []int{99998, 99999, 100000, 100001, 100002, 200000, 1 << 20, 1 << 31, 1 << 40, math.MaxInt - 1, math.MaxInt} {
		if got := Row(n); !slices.Equal(got, want[:min(n, len(want))]) {
			t.Errorf("Row(%d) has %d numbers, or others than it must", n, len(got))
		}
	}
}

func TestRowIsTermOfEachPlace(t *testing.T) {
	for _, n := range []int{1, 2, 3, 4, 6, 7, 8, 15, 16, 127, 128, 1000, 65535, 65536, 99999, 100000, 100001} {
		row := Row(n)
		if len(row) != min(n, 100000) {
			t.Fatalf("Row(%d) has %d numbers", n, len(row))
		}
		for at, got := range row {
			if want := Term(at + 1); got != want {
				t.Fatalf("Row(%d) has %d at place %d, where Term(%d) is %d", n, got, at, at+1, want)
			}
		}
	}
}

func TestRowComesAgain(t *testing.T) {
	all := Row(100000)
	for k := 1; 1<<(k+1)-1 <= len(all); k++ {
		whole := 1<<k - 1
		if !slices.Equal(all[:whole], all[whole:2*whole]) {
			t.Errorf("the first %d numbers do not come again behind themselves", whole)
		}
		if got := all[2*whole]; got != 1<<k {
			t.Errorf("behind the first %d numbers twice comes %d, want %d", whole, got, 1<<k)
		}
	}
}

func TestRowIsOfPowersOfTwo(t *testing.T) {
	for at, got := range Row(100000) {
		if got < 1 || bits.OnesCount(uint(got)) != 1 {
			t.Fatalf("at place %d is %d, no power of two", at, got)
		}
	}
}

func TestRowOfNone(t *testing.T) {
	for _, n := range []int{0, -1, -2, -3, -7, -99999, -100000, -100001, -1 << 31, -1 << 40, math.MinInt + 1, math.MinInt} {
		if got := Row(n); len(got) != 0 {
			t.Errorf("Row(%d) = %v, want none", n, got)
		}
	}
}

func TestRowAgain(t *testing.T) {
	for _, n := range []int{math.MinInt, -1, 0, 1, 2, 3, 7, 1000, 99999, 100000, 100001, math.MaxInt} {
		a := Row(n)
		if b := Row(n); !slices.Equal(a, b) {
			t.Errorf("Row(%d) answers another row the second time", n)
		}
	}
}

func TestRowIsNewMemory(t *testing.T) {
	a := Row(7)
	clear(a[:cap(a)])
	if b := Row(7); !slices.Equal(b, []int{1, 1, 2, 1, 1, 2, 4}) {
		t.Errorf("Row(7) = %v, once an earlier answer was written to", b)
	}
	if got := Term(7); got != 4 {
		t.Errorf("Term(7) = %d, once an answer of Row was written to", got)
	}
}

func TestAtTheSameTime(t *testing.T) {
	want := make([]int, 2000)
	for at := range want {
		want[at] = plain(at + 1)
	}
	var all sync.WaitGroup
	for range 8 {
		all.Go(func() {
			if !slices.Equal(Row(2000), want) {
				t.Error("Row(2000) answers another row beside others")
			}
			for at, w := range want {
				if got := Term(at + 1); got != w {
					t.Errorf("Term(%d) = %d beside others, want %d", at+1, got, w)
				}
			}
		})
	}
	all.Wait()
}
