package analyze

import "breakwater/api"

// mark is what is known of a variable, or of a level.
type mark uint8

const (
	unmet mark = iota
	met
	// passed is a variable that the way down the trail has come to.
	passed
)

// pageSize is how many marks are made at once.
const pageSize = 1 << 12

// page is marks of neighbours.
type page [pageSize]mark

// marks are those of the numbers below MaxVars, all unmet at first. A page is
// made with the first mark that is set on it: a conflict of few variables shall
// not pay for all that there may be.
type marks struct {
	pages [api.MaxVars / pageSize]*page
}

func (m *marks) of(i int) mark {
	p := m.pages[i/pageSize]
	if p == nil {
		return unmet
	}
	return p[i%pageSize]
}

func (m *marks) set(i int, k mark) {
	n := i / pageSize
	if m.pages[n] == nil {
		m.pages[n] = new(page)
	}
	m.pages[n][i%pageSize] = k
}
