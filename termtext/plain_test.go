package termtext

import (
	"fmt"
	"math/rand"
	"slices"
	"strings"
	"testing"

	"breakwater/api"
	"breakwater/term"
)

// shape is how a term of an operator is told: #A, #B and #C are its parts, B
// and W its own fields.
func shape(op int) string {
	switch op {
	case 1, 2, 3, 4, 5, 6, 7, 8, 9, 10, 11, 12, 13, 14:
		names := "add sub mul udiv urem and or xor shl shr sar eq ult slt"
		return "(" + strings.Split(names, " ")[op-1] + " #A #B)"
	case 15:
		return "(not #A)"
	case 16:
		return "(neg #A)"
	case 22:
		return "(ite #A #B #C)"
	case 23:
		return "(ext B W #A)"
	case 24:
		return "(cat #A #B)"
	case 25:
		return "(zext W #A)"
	case 26:
		return "(sext W #A)"
	}
	panic("no such operator")
}

// plainly are the texts of all terms of d, from the first one on; of one that
// is too long a text that is too long as well.
func plainly(d *term.Dag) []string {
	var texts []string
	at := func(id int) string {
		if id >= 0 && id < len(texts) {
			return texts[id]
		}
		return ""
	}
	for _, n := range nodes(d) {
		var s string
		switch n.Op {
		case 20:
			s = fmt.Sprintf("%d:%d", n.Val, n.Width)
		case 21:
			s = fmt.Sprintf("x%d:%d", n.A, n.Width)
		default:
			s = strings.NewReplacer("#A", at(n.A), "#B", at(n.B), "#C", at(n.C),
				"B", fmt.Sprint(n.B), "W", fmt.Sprint(n.Width)).Replace(shape(n.Op))
		}
		if len(s) > api.MaxShow {
			s = strings.Repeat("?", api.MaxShow+1)
		}
		texts = append(texts, s)
	}
	return texts
}

// grow makes terms of all kinds of those that are there, till there are so
// many, each of the last so many that were there; what goes wrong makes none, and
// is of no matter here.
func grow(r *rand.Rand, d *term.Dag, terms, last int) {
	widths := []int{1, 1, 1, 2, 8, 8, 8, 9, 10, 63, 64, 64}
	variables := []int{0, 1, 2, 3, 9, 10, 11, 99, 100, 254, 255}
	for tries := 0; d.Len() < terms && tries < 1000*terms; tries++ {
		id := func() int { return max(0, d.Len()-1-r.Intn(last)) }
		switch w := widths[r.Intn(len(widths))]; r.Intn(12) {
		case 0:
			d.Const(w, r.Uint64()>>r.Intn(64))
		case 1:
			d.Var(w, variables[r.Intn(len(variables))])
		case 2:
			d.Unary(api.OpNot+r.Intn(2), id())
		case 3, 4, 5, 6, 7:
			d.Binary(api.OpAdd+r.Intn(14), id(), id())
		case 8:
			d.Ite(id(), id(), id())
		case 9:
			d.Extract(id(), r.Intn(64), 1+r.Intn(64))
		case 10:
			d.Concat(id(), id())
		case 11:
			d.Extend(id(), 1+r.Intn(64), r.Intn(2) == 0)
		}
	}
}

// Promise 18.1: terms made by random calls, against texts reckoned plainly; and
// no two of them have one text.
func TestAgainstPlain(t *testing.T) {
	met, shown, limit := map[int]int{}, 0, 0
	for seed := range 300 {
		r := rand.New(rand.NewSource(int64(seed)))
		d := term.New(api.MaxTerms)
		grow(r, d, 20+r.Intn(300), []int{3, 10, 30, 1000}[r.Intn(4)])
		was := nodes(d)
		whose := map[string]int{}
		for id, want := range plainly(d) {
			got, e := Show(d, id)
			if len(want) > api.MaxShow {
				limit++
				if got != "" || e != api.ErrLimit {
					t.Fatalf("seed %d: Show(%d) = %q, %d, want none, %d", seed, id, got, e, api.ErrLimit)
				}
				continue
			}
			shown++
			met[was[id].Op]++
			if got != want || e != api.OK {
				t.Fatalf("seed %d: Show(%d) = %q, %d, want %q", seed, id, got, e, want)
			}
			if first, ok := whose[got]; ok {
				t.Fatalf("seed %d: %d and %d have the text %q", seed, first, id, got)
			}
			whose[got] = id
			wellFormed(t, got)
		}
		if !slices.Equal(nodes(d), was) {
			t.Fatalf("seed %d: the terms have changed", seed)
		}
	}
	// Without these the samples would say little.
	for op := api.OpAdd; op <= api.TermSext; op++ {
		if there := op <= api.OpNeg || op >= api.TermConst; there && met[op] < 200 {
			t.Errorf("the operator %d alone %d times", op, met[op])
		}
	}
	if shown < 10000 || limit < 1000 {
		t.Errorf("%d shown, %d too long", shown, limit)
	}
}

// wellFormed asks that just one blank stands between two things, and that each
// sign that opens is closed.
func wellFormed(t *testing.T, s string) {
	t.Helper()
	for _, wrong := range []string{"  ", "( ", " )", ")(", "()", "\n", "\t"} {
		if strings.Contains(s, wrong) {
			t.Fatalf("%q has %q", s, wrong)
		}
	}
	if strings.Count(s, "(") != strings.Count(s, ")") || strings.TrimSpace(s) != s {
		t.Fatalf("%q is no text of a term", s)
	}
}

// Whatever is handed in: no panic; just what is a term's number has a text.
func TestAnyNumbers(t *testing.T) {
	for seed := range 20 {
		r := rand.New(rand.NewSource(int64(seed)))
		d := term.New(40)
		grow(r, d, 40, 40)
		texts := plainly(d)
		for range 2000 {
			id := int(r.Uint64() >> r.Intn(64))
			if r.Intn(2) == 0 {
				id = -id
			}
			got, e := Show(d, id)
			switch {
			case id < 0 || id >= len(texts):
				if got != "" || e != api.ErrTerm {
					t.Fatalf("Show(%d) = %q, %d, of none", id, got, e)
				}
			case len(texts[id]) <= api.MaxShow && (got != texts[id] || e != api.OK):
				t.Fatalf("Show(%d) = %q, %d, want %q", id, got, e, texts[id])
			}
			if word := Word(id); word != "" && (id < api.OpAdd || id > api.TermSext) {
				t.Fatalf("Word(%d) = %q", id, word)
			}
		}
	}
}
