package sem

import (
	"math/big"
	"math/rand"
	"testing"

	"breakwater/api"
	"breakwater/term"
)

// plain is what is known of all terms of a dag, reckoned from the first one on
// in numbers of no bound.
type plain struct {
	words []*big.Int
	// vars and terms say of each term which variables it hangs on, and which
	// terms it is made of.
	vars  [][]bool
	terms [][]bool
}

func power(n int) *big.Int { return new(big.Int).Lsh(big.NewInt(1), uint(n)) }

func number(x uint64) *big.Int { return new(big.Int).SetUint64(x) }

// rest is x as a word of w bits.
func rest(x *big.Int, w int) *big.Int { return new(big.Int).Mod(x, power(w)) }

// signed is x, a word of w bits, the highest one counting below 0.
func signed(x *big.Int, w int) *big.Int {
	if x.Cmp(power(w-1)) >= 0 {
		return new(big.Int).Sub(x, power(w))
	}
	return x
}

func truth(holds bool) *big.Int {
	if holds {
		return big.NewInt(1)
	}
	return new(big.Int)
}

// plainBinary is what op makes of a and b, words of w bits, ahead of the cut.
func plainBinary(op, w int, a, b *big.Int) *big.Int {
	x := new(big.Int)
	// No word is moved further than this by more bits.
	steps := w
	if b.Cmp(big.NewInt(int64(w))) < 0 {
		steps = int(b.Int64())
	}
	switch op {
	case api.OpAdd:
		return x.Add(a, b)
	case api.OpSub:
		return x.Sub(a, b)
	case api.OpMul:
		return x.Mul(a, b)
	case api.OpUdiv:
		if b.Sign() == 0 {
			return x.Sub(power(w), big.NewInt(1))
		}
		return x.Quo(a, b)
	case api.OpUrem:
		if b.Sign() == 0 {
			return a
		}
		return x.Rem(a, b)
	case api.OpAnd:
		return x.And(a, b)
	case api.OpOr:
		return x.Or(a, b)
	case api.OpXor:
		return x.Xor(a, b)
	case api.OpShl:
		return x.Mul(a, power(steps))
	case api.OpShr:
		return x.Quo(a, power(steps))
	case api.OpSar:
		// Div goes down, also below 0, as bits that come from above do.
		return x.Div(signed(a, w), power(steps))
	case api.OpEq:
		return truth(a.Cmp(b) == 0)
	case api.OpUlt:
		return truth(a.Cmp(b) < 0)
	case api.OpSlt:
		return truth(signed(a, w).Cmp(signed(b, w)) < 0)
	}
	panic("no such operator")
}

// plainWord is the word of n, where words are those of the terms ahead of it.
func plainWord(d *term.Dag, n api.Node, words []*big.Int, env []uint64) *big.Int {
	x := new(big.Int)
	switch n.Op {
	case api.TermConst:
		return number(n.Val)
	case api.TermVar:
		for i, y := range env {
			if i == n.A {
				return rest(number(y), n.Width)
			}
		}
		return x
	case api.TermIte:
		if words[n.A].Sign() == 0 {
			return words[n.C]
		}
		return words[n.B]
	case api.TermExt:
		return rest(x.Quo(words[n.A], power(n.B)), n.Width)
	case api.TermCat:
		return x.Add(words[n.B], new(big.Int).Mul(words[n.A], power(d.Width(n.B))))
	case api.TermZext:
		return words[n.A]
	case api.TermSext:
		return rest(signed(words[n.A], d.Width(n.A)), n.Width)
	case api.OpNot:
		return x.Sub(power(n.Width), x.Add(words[n.A], big.NewInt(1)))
	case api.OpNeg:
		return rest(x.Neg(words[n.A]), n.Width)
	}
	return rest(plainBinary(n.Op, d.Width(n.A), words[n.A], words[n.B]), n.Width)
}

// plainParts are the terms that stand in n.
func plainParts(n api.Node) []int {
	parts := map[int]int{api.TermConst: 0, api.TermVar: 0, api.TermIte: 3, api.OpNot: 1, api.OpNeg: 1,
		api.TermExt: 1, api.TermZext: 1, api.TermSext: 1, api.TermCat: 2}
	many, ok := parts[n.Op]
	if !ok {
		many = 2
	}
	return []int{n.A, n.B, n.C}[:many]
}

func plainly(d *term.Dag, env []uint64) plain {
	var p plain
	for id := range d.Len() {
		n, _ := d.Node(id)
		vars, terms := make([]bool, api.MaxInputs), make([]bool, d.Len())
		terms[id] = true
		if n.Op == api.TermVar {
			vars[n.A] = true
		}
		for _, part := range plainParts(n) {
			for i, is := range p.vars[part] {
				vars[i] = vars[i] || is
			}
			for i, is := range p.terms[part] {
				terms[i] = terms[i] || is
			}
		}
		p.words = append(p.words, plainWord(d, n, p.words, env))
		p.vars = append(p.vars, vars)
		p.terms = append(p.terms, terms)
	}
	return p
}

// places are where list is true.
func places(list []bool) []int {
	var all []int
	for i, is := range list {
		if is {
			all = append(all, i)
		}
	}
	return all
}

// grow makes terms of all kinds out of those that are there, till there are
// so many; what goes wrong makes none, and is of no matter here.
func grow(r *rand.Rand, d *term.Dag, terms int) {
	widths := []int{1, 1, 1, 2, 8, 8, 8, 63, 64, 64}
	variables := []int{0, 1, 2, 3, 4, 100, 254, 255}
	for tries := 0; d.Len() < terms && tries < 1000*terms; tries++ {
		id := func() int { return r.Intn(d.Len() + 1) }
		switch w := widths[r.Intn(len(widths))]; r.Intn(12) {
		case 0:
			d.Const(w, r.Uint64()>>r.Intn(64))
		case 1:
			d.Var(w, variables[r.Intn(len(variables))])
		case 2:
			d.Unary(api.OpNot+r.Intn(2), id())
		case 3, 4, 5, 6, 7:
			d.Binary(api.OpAdd+r.Intn(14), id(), id())
		case 8:
			d.Ite(id(), id(), id())
		case 9:
			d.Extract(id(), r.Intn(64), 1+r.Intn(64))
		case 10:
			d.Concat(id(), id())
		case 11:
			d.Extend(id(), 1+r.Intn(64), r.Intn(2) == 0)
		}
	}
}

// randomEnv is words of all sizes, as many as some terms need, or fewer, or
// more.
func randomEnv(r *rand.Rand) []uint64 {
	env := make([]uint64, []int{0, 1, 2, 3, 5, 101, 255, 256, 257, 300}[r.Intn(10)])
	for i := range env {
		env[i] = r.Uint64() >> r.Intn(64)
	}
	return env
}

// like asks of one term whether all three calls tell what p does.
func like(t *testing.T, d *term.Dag, id int, env []uint64, p plain) {
	t.Helper()
	n, _ := d.Node(id)
	x, e := Value(d, id, env)
	if e != api.OK || number(x).Cmp(p.words[id]) != 0 {
		t.Fatalf("Value(%d %+v) = %#x, %d, want %#x", id, n, x, e, p.words[id])
	}
	hasVars(t, d, id, places(p.vars[id])...)
	hasSize(t, d, id, len(places(p.terms[id])))
}

// Promise 16.1, as a whole: terms asked for in many orders.

func TestAgainstAllFromTheFirstOn(t *testing.T) {
	met := map[int]int{}
	for seed := range 300 {
		r := rand.New(rand.NewSource(int64(seed)))
		d := term.New(api.MaxTerms)
		grow(r, d, 1+r.Intn(120))
		was := nodes(d)
		for range 4 {
			env := randomEnv(r)
			p := plainly(d, env)
			for _, id := range r.Perm(d.Len()) {
				like(t, d, id, env, p)
			}
		}
		unchanged(t, d, was)
		for _, n := range was {
			met[n.Op]++
		}
	}
	// Without these the samples would say little.
	for _, op := range operators {
		if met[op] < 100 {
			t.Errorf("of operator %d there were %d terms alone", op, met[op])
		}
	}
}

// One long row of terms, of which some are asked for.
func TestAgainstALongRow(t *testing.T) {
	r := rand.New(rand.NewSource(7))
	d := term.New(api.MaxTerms)
	grow(r, d, 4000)
	if d.Len() != 4000 {
		t.Fatalf("there are %d terms alone", d.Len())
	}
	for range 2 {
		env := randomEnv(r)
		p := plainly(d, env)
		for range 400 {
			like(t, d, r.Intn(d.Len()), env, p)
		}
		like(t, d, d.Len()-1, env, p)
		like(t, d, 0, env, p)
	}
}

// What is made between two calls changes nothing of what was there.
func TestTermsThatComeLater(t *testing.T) {
	r := rand.New(rand.NewSource(11))
	d := term.New(api.MaxTerms)
	env := []uint64{3, 1 << 63, ^uint64(0), 7, 9}
	for size := 1; size < 150; size++ {
		grow(r, d, size)
		p := plainly(d, env)
		for range 5 {
			like(t, d, r.Intn(d.Len()), env, p)
		}
		like(t, d, d.Len()-1, env, p)
	}
}
