package sat

import (
	"slices"

	"breakwater/analyze"
	"breakwater/api"
	"breakwater/lit"
	"breakwater/luby"
	"breakwater/order"
	"breakwater/trail"
	"breakwater/watch"
)

const (
	// shortest is how many conflicts the shortest rounds of the search have.
	shortest = 64
	// leastWeight and mostWeight are between what a conflict counts for a
	// variable, growth is the part of it by which the next counts for more.
	// A variable that all conflicts meet comes to 33 times the last weight,
	// which is less than the greatest activity there is.
	leastWeight = 1 << 17
	mostWeight  = 1 << 34
	growth      = 32
)

// solver is what is known on the way to an answer. What is assigned is its
// trail's: it decides, and is asked for levels and reasons, as that is.
type solver struct {
	*trail.Trail
	watch *watch.Watch
	order *order.Order
	// clauses are all that came, by their numbers. One that is gone is empty.
	clauses [][]int
	learned store
	proof   [][]int
	// truths are those that the variables had last. They are tried first, so
	// that what let many clauses hold isn't sought again behind each way back.
	truths    []bool
	weight    int
	conflicts int
	// round is which one this is, from 1 on; it ends with so many conflicts.
	round, end int
}

func begin(vars int, l [][]int) *solver {
	s := &solver{
		Trail:   trail.New(vars),
		watch:   watch.New(vars),
		order:   order.New(vars),
		clauses: make([][]int, 0, len(l)),
		learned: store{first: len(l), all: vars <= few, limit: room},
		truths:  make([]bool, vars),
		weight:  leastWeight,
	}
	for _, c := range l {
		s.add(c)
		// A variable that no clause has never waits: any truth is right.
		for _, x := range c {
			s.order.Push(lit.Var(x))
		}
	}
	s.nextRound()
	return s
}

// add lets the clause c be there. Its number is how many came ahead of it, for
// the watch as for the list here.
func (s *solver) add(c []int) {
	s.watch.Add(s.Trail, c)
	s.clauses = append(s.clauses, c)
}

func (s *solver) search(budget int) api.Result {
	for {
		failed, ok := s.watch.Run(s.Trail)
		switch {
		case !ok && s.Levels() == 0:
			return s.unsat()
		case !ok && s.conflicts == budget:
			return api.Result{Status: api.Unknown, Conflicts: budget}
		case !ok:
			s.learn(failed)
		case s.conflicts >= s.end:
			s.beginAnew()
		case !s.decideNext():
			return s.sat()
		}
	}
}

// decideNext decides the variable that is next; false, if none is left.
func (s *solver) decideNext() bool {
	for {
		v, ok := s.order.Pop()
		if !ok {
			return false
		}
		// A variable that was assigned meanwhile is not decided.
		if l, _ := lit.Make(v, !s.truths[v]); s.Decide(l) {
			return true
		}
	}
}

// learn adds what is learned from the clause that failed, and goes back to
// where something follows from it. There always is something to learn: since
// nothing is decided till all that follows is assigned, the clause has a
// literal of the level that is. And what is learned is a clause that was not
// there, from which more would have followed ahead of the last decision.
func (s *solver) learn(failed int) {
	c, level, met, _ := analyze.Learn(s.Trail, s.clauses, failed)
	s.conflicts++
	s.weigh(met)
	s.learned.use(s.reasons(failed, met), s.conflicts)
	s.learned.add(api.Learned{Size: len(c), Glue: analyze.Glue(s.Trail, c), Activity: s.conflicts})
	s.goBack(level)
	s.add(c)
	s.proof = append(s.proof, c)
}

// weigh counts a conflict for the variables that were met. The later ones count
// for more: they tell what the search is busy with.
func (s *solver) weigh(met []int) {
	for _, v := range met {
		s.order.Bump(v, s.weight)
	}
	s.weight += s.weight / growth
	if s.weight <= mostWeight {
		return
	}
	for s.weight >= 2*leastWeight {
		s.order.Halve()
		s.weight /= 2
	}
}

// reasons are the numbers of the clauses that played a part: the one that
// failed, and the reasons, of this level, of the variables that were met (-1 of
// the one that was decided).
func (s *solver) reasons(failed int, met []int) []int {
	numbers := []int{failed}
	for _, v := range met {
		if s.Level(v) == s.Levels() {
			numbers = append(numbers, s.Reason(v))
		}
	}
	return numbers
}

// goBack takes back all that was assigned above level: it waits again.
func (s *solver) goBack(level int) {
	s.keepTruths(level)
	for _, v := range s.Back(level) {
		s.order.Push(v)
	}
}

// keepTruths keeps the truths of the variables that were assigned above level.
func (s *solver) keepTruths(level int) {
	for _, x := range slices.Backward(s.Lits()) {
		v := lit.Var(x)
		if s.Level(v) <= level {
			return
		}
		s.truths[v] = !lit.Neg(x)
	}
}

// beginAnew ends a round. Clauses go at level 0 alone: there none is needed as
// a reason, since nobody asks why something holds at that level.
func (s *solver) beginAnew() {
	s.goBack(0)
	for _, number := range s.learned.reduce() {
		s.watch.Remove(number)
		s.clauses[number] = nil
	}
	s.nextRound()
}

func (s *solver) nextRound() {
	s.round++
	s.end = s.conflicts + shortest*luby.Term(s.round)
}

func (s *solver) sat() api.Result {
	s.keepTruths(-1)
	return api.Result{Status: api.Sat, Model: s.truths, Conflicts: s.conflicts}
}

// unsat tells as proof all that was learned, also what is gone, since later
// clauses came by it; and then the empty clause.
func (s *solver) unsat() api.Result {
	return api.Result{Status: api.Unsat, Conflicts: s.conflicts, Proof: append(s.proof, []int{})}
}
