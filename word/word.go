// Package word is layer 1, words of 1 to 64 bits: see shared/doc/01-word.md.
package word

import (
	"breakwater/api"
)

func isWidth(w int) bool { return w >= 1 && w <= api.MaxWidth }

// Mask tells the word of w bits that are all set; 0, if w is no width.
func Mask(w int) uint64 {
	if !isWidth(w) {
		return 0
	}
	return ^uint64(0) >> (api.MaxWidth - w)
}

// Cut tells the lowest w bits of x; 0, if w is no width.
func Cut(w int, x uint64) uint64 { return x & Mask(w) }

// Signed tells the number that the lowest w bits of x are, the highest one
// counting below 0; 0, if w is no width.
func Signed(w int, x uint64) int {
	if !isWidth(w) {
		return 0
	}
	// Up to the top of an int64 and down again: what comes from above is the
	// word's own highest bit.
	unused := api.MaxWidth - w
	return int(int64(x<<unused) >> unused)
}

// Binary tells what op makes of a and b, all of them words of w bits.
func Binary(op, w int, a, b uint64) (uint64, api.Errno) {
	if op < api.OpAdd || op > api.OpSlt {
		return 0, api.ErrOp
	}
	if !isWidth(w) {
		return 0, api.ErrWidth
	}
	return Cut(w, combine(op, w, Cut(w, a), Cut(w, b))), api.OK
}

// Unary tells what op makes of a, both words of w bits.
func Unary(op, w int, a uint64) (uint64, api.Errno) {
	if op != api.OpNot && op != api.OpNeg {
		return 0, api.ErrOp
	}
	if !isWidth(w) {
		return 0, api.ErrWidth
	}
	return Cut(w, turn(op, a)), api.OK
}

// combine leaves bits above the width, for its caller to cut; a and b have
// none, and op and w are known to be right.
func combine(op, w int, a, b uint64) uint64 {
	switch op {
	case api.OpSub:
		b = -b
		fallthrough
	case api.OpAdd:
		return a + b
	case api.OpMul:
		return a * b
	case api.OpUdiv, api.OpUrem:
		return divide(op, a, b)
	case api.OpAnd:
		return a & b
	case api.OpOr:
		return a | b
	case api.OpXor:
		return a ^ b
	case api.OpShl, api.OpShr, api.OpSar:
		return move(op, w, a, b)
	case api.OpEq:
		return truth(a == b)
	case api.OpSlt:
		// With the highest bits turned, words below 0 come ahead of the
		// others, so that they go as those without a sign.
		top := uint64(1) << (w - 1)
		a, b = a^top, b^top
		fallthrough
	case api.OpUlt:
		return truth(a < b)
	}
	return 0
}

// turn leaves bits above the width, for its caller to cut.
func turn(op int, a uint64) uint64 {
	switch op {
	case api.OpNeg:
		// 0 less a is a less 1 with all bits turned.
		a--
		fallthrough
	case api.OpNot:
		return ^a
	}
	return 0
}

func divide(op int, a, b uint64) uint64 {
	switch {
	case b == 0 && op == api.OpUdiv:
		return ^uint64(0)
	case b == 0:
		return a
	case op == api.OpUdiv:
		return a / b
	}
	return a % b
}

// move asks nothing of b: the language's own moves by any number of bits leave
// noughts, or the sign, where nothing is left of a.
func move(op, w int, a, b uint64) uint64 {
	switch op {
	case api.OpShl:
		return a << b
	case api.OpShr:
		return a >> b
	}
	return uint64(int64(Signed(w, a)) >> b)
}

func truth(holds bool) uint64 {
	if holds {
		return 1
	}
	return 0
}
