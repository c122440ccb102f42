package sat

import (
	"math/rand"
	"slices"
	"testing"

	"breakwater/api"
)

// searched runs the search, and asks that it tells what Solve does.
func searched(t *testing.T, p problem) (*solver, api.Result) {
	t.Helper()
	s := begin(p.vars, p.l)
	r := s.search(plenty)
	if want, _ := Solve(p.vars, p.l, plenty); !same(r, want) {
		t.Fatalf("%v: not what Solve tells", p)
	}
	return s, r
}

// went asks that the search began anew, and clauses are gone, everywhere alike.
func went(t *testing.T, p problem, s *solver) {
	t.Helper()
	there := len(s.learned.numbers)
	if s.round < 2 || there >= s.conflicts {
		t.Fatalf("%v: round %d, %d clauses of %d are there", p, s.round, there, s.conflicts)
	}
	if n := s.watch.Len(); n != len(p.l)+there {
		t.Errorf("%v: %d clauses are watched, of %d and %d", p, n, len(p.l), there)
	}
	for number, c := range s.clauses {
		is := number < len(p.l) || slices.Contains(s.learned.numbers, number)
		if !slices.Equal(c, s.watch.Clause(number)) || is == (len(c) == 0) {
			t.Fatalf("%v: the clause %d is %v here, and %v where it is watched", p, number, c, s.watch.Clause(number))
		}
	}
}

func TestUnsatWhereClausesWent(t *testing.T) {
	t.Parallel()
	for _, p := range []problem{sums(4, 3, 0), threes(rand.New(rand.NewSource(2)), 124)} {
		s, r := searched(t, p)
		if r.Status != api.Unsat || len(r.Proof) != s.conflicts+1 {
			t.Fatalf("%v: status %d, a proof of %d clauses, %d conflicts", p, r.Status, len(r.Proof), s.conflicts)
		}
		isProof(t, p, r)
		went(t, p, s)
	}
}

func TestSatWhereClausesWent(t *testing.T) {
	t.Parallel()
	r := rand.New(rand.NewSource(3))
	n := 0
	for range 20 {
		p := wide(r, 150, 620, 3)
		s, a := searched(t, p)
		if a.Status == api.Sat && s.conflicts > 2*room {
			n++
			isModel(t, p, a)
			went(t, p, s)
		}
	}
	if n == 0 {
		t.Error("clauses went in none of them")
	}
}

// Where rounds end, and clauses go, far earlier than they would, what is told
// is sound all the same.
func TestShortRoundsAndLittleRoom(t *testing.T) {
	t.Parallel()
	r := rand.New(rand.NewSource(4))
	gone := 0
	for range 1500 {
		p := threes(r, 3+r.Intn(10))
		if r.Intn(2) == 0 {
			p = wide(r, 8, 60+r.Intn(60), 5)
		}
		s := begin(p.vars, p.l)
		s.learned.all, s.learned.limit, s.end = false, 1+r.Intn(8), r.Intn(12)
		a := s.search(plenty)
		if want := isAsCounted(t, p, plenty); want.Status != a.Status {
			t.Fatalf("%v: status %d, want %d", p, a.Status, want.Status)
		}
		if a.Status == api.Sat {
			isModel(t, p, a)
		} else {
			isProof(t, p, a)
		}
		if len(s.learned.numbers) < s.conflicts {
			gone++
			went(t, p, s)
		}
	}
	if gone < 50 {
		t.Errorf("clauses went in %d of them", gone)
	}
}

// The rounds are as long as the row 1 1 2 1 1 2 4 .. says.
func TestRounds(t *testing.T) {
	s := begin(3, nil)
	for i, n := range []int{1, 1, 2, 1, 1, 2, 4, 1} {
		if s.round != i+1 || s.end-s.conflicts != n*shortest {
			t.Errorf("round %d has %d conflicts, want %d", s.round, s.end-s.conflicts, n*shortest)
		}
		s.conflicts = s.end
		s.beginAnew()
	}
}

// A new round begins with nothing decided: clauses that go are no reasons then,
// and all that was taken back waits.
func TestBeginAnew(t *testing.T) {
	// Variables are tried as false first, and nothing follows from that here.
	s := begin(9, [][]int{{1, 3, 5}, {7, 9, 11}, {13, 15, 17}})
	s.Assign(17, -1)
	for s.Levels() < 3 {
		s.watch.Run(s.Trail)
		if !s.decideNext() {
			t.Fatal("nothing is left")
		}
	}
	s.beginAnew()
	if s.Levels() != 0 || len(s.Lits()) != 1 {
		t.Errorf("level %d, %v hold", s.Levels(), s.Lits())
	}
	for v := range 8 {
		if !s.order.Has(v) {
			t.Errorf("%d does not wait", v)
		}
	}
}

// Activities tell variables apart as long as none comes to the greatest there
// is, and weights do as long as a part of them is not 0.
func TestWeights(t *testing.T) {
	s := begin(3, nil)
	for range 5000 {
		s.weigh([]int{0})
		if s.conflicts++; s.conflicts%2 == 0 {
			s.weigh([]int{1})
		}
		if s.weight < leastWeight || s.weight > mostWeight {
			t.Fatalf("weight %d", s.weight)
		}
		a, b, c := s.order.Activity(0), s.order.Activity(1), s.order.Activity(2)
		if a >= 1<<40 || b >= a || c != 0 {
			t.Fatalf("activities %d, %d, %d", a, b, c)
		}
	}
	// The last conflicts count for more than all that were long ago.
	for range 300 {
		s.weigh([]int{2})
	}
	if s.order.Activity(2) <= s.order.Activity(0) {
		t.Errorf("activities %d, %d", s.order.Activity(2), s.order.Activity(0))
	}
}

// filled is a store of n clauses, the first of them 5, of which none is kept
// whatever the others are.
func filled(n int, all bool) *store {
	k := &store{first: 5, all: all, limit: room}
	for i := range n {
		k.add(api.Learned{Size: 9, Glue: 9, Activity: i})
	}
	return k
}

func TestOfEightVariablesNoneGoes(t *testing.T) {
	for vars := range 12 {
		if all := begin(vars, nil).learned.all; all != (vars <= 8) {
			t.Errorf("%d variables: %v", vars, all)
		}
	}
	k := filled(all8, true)
	if gone := k.reduce(); len(gone) != 0 || len(k.numbers) != all8 {
		t.Errorf("%d of %d go, %d are left", len(gone), all8, len(k.numbers))
	}
}

func TestHalfOfThemGo(t *testing.T) {
	if gone := filled(room-1, false).reduce(); len(gone) != 0 {
		t.Errorf("with room %d go", len(gone))
	}
	k := filled(room, false)
	// The first two, 5 and 6, played a part with a late conflict.
	k.use([]int{5, -1, 6, 4, 0}, room+1)
	gone := k.reduce()
	if len(gone) != room/2 || len(k.numbers) != room/2 {
		t.Fatalf("%d go, %d are left", len(gone), len(k.numbers))
	}
	if gone[0] != 7 || !slices.Equal(k.numbers[:3], []int{5, 6, 5 + room/2 + 2}) {
		t.Errorf("%v .. go, %v .. are left", gone[:3], k.numbers[:3])
	}
	k.add(api.Learned{Size: 9, Glue: 9})
	if n := k.numbers[room/2]; n != 5+room {
		t.Errorf("the next has the number %d", n)
	}
}

// The limit rises each time, so that a search ends.
func TestThereIsMoreRoomEachTime(t *testing.T) {
	k := filled(0, false)
	was := 0
	for range 20 {
		for len(k.reduce()) == 0 {
			k.add(api.Learned{Size: 9, Glue: 9})
			if len(k.numbers) > 100*room {
				t.Fatal("none goes")
			}
		}
		if k.limit <= was {
			t.Fatalf("limit %d, then %d", was, k.limit)
		}
		was = k.limit
	}
}
