package sat

import (
	"breakwater/api"
	"breakwater/reduce"
)

const (
	// few is of how many variables at most all that is learned is kept. Then no
	// clause is learned twice, and of so many variables there are but 6561.
	few = 8
	// room is how many clauses that were learned there are at least when some
	// go for the first time; each time it is by moreRoom more.
	room     = 1000
	moreRoom = 300
)

// store is what is known of the clauses that were learned.
type store struct {
	// first is the number of the first of them; facts has one behind the
	// other, also those that are gone.
	first int
	facts []api.Learned
	// numbers are of those that are there.
	numbers []int
	// all says that none goes, whatever the limit.
	all   bool
	limit int
}

func (k *store) add(f api.Learned) {
	k.numbers = append(k.numbers, k.first+len(k.facts))
	k.facts = append(k.facts, f)
}

// use keeps with which conflict clauses played a part last, as their activity.
// Numbers of clauses that were not learned are left out.
func (k *store) use(numbers []int, conflict int) {
	for _, n := range numbers {
		if n >= k.first {
			k.facts[n-k.first].Activity = conflict
		}
	}
}

// reduce lets clauses go, if there are too many, and tells their numbers. The
// limit rises each time: at last it is above the number of all clauses that
// differ, so that no search goes round in a circle.
func (k *store) reduce() []int {
	if k.all || len(k.numbers) < k.limit {
		return nil
	}
	k.limit += moreRoom
	var stay, gone []int
	for i, kept := range reduce.Keep(k.there()) {
		if kept {
			stay = append(stay, k.numbers[i])
		} else {
			gone = append(gone, k.numbers[i])
		}
	}
	k.numbers = stay
	return gone
}

// there tells the facts of the clauses that are there.
func (k *store) there() []api.Learned {
	list := make([]api.Learned, 0, len(k.numbers))
	for _, n := range k.numbers {
		list = append(list, k.facts[n-k.first])
	}
	return list
}
