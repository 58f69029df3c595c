package limb

import "math/bits"

// Div is the quotient of a and b, which is not 0, and what is left of a.
func Div(a, b []uint64) (quo, rest []uint64) {
	if Cmp(a, b) < 0 {
		return nil, Cut(append([]uint64(nil), a...))
	}
	if len(b) == 1 {
		q, r := Take(a, b[0])
		return q, Of(r)
	}
	// the divisor's highest bit is made 1: so each digit is guessed too great by 2 at most
	by := bits.LeadingZeros64(b[len(b)-1])
	v := Shl(b, by)
	u := make([]uint64, len(a)+1)
	copy(u, Shl(a, by))
	quo = make([]uint64, len(a)-len(b)+1)
	n := len(v)
digits:
	for k := len(quo) - 1; k >= 0; k-- {
		q := digit(u[k+n], u[k+n-1], u[k+n-2], v[n-1], v[n-2])
		if q == 0 {
			continue digits
		}
		part := u[k : k+n+1]
		if less(part, v, q) {
			q--
			back(part, v)
		}
		quo[k] = q
	}
	return Cut(quo), Shr(Cut(u), by)
}

// digit guesses a digit of the quotient by the three highest words and the divisor's two: it is right, or too great by 1.
func digit(u2, u1, u0, v1, v0 uint64) uint64 {
	q := uint64(1<<64 - 1)
	if u2 >= v1 {
		return q
	}
	q, r := bits.Div64(u2, u1, v1)
	for {
		high, low := bits.Mul64(q, v0)
		if high < r || high == r && low <= u0 {
			return q
		}
		q--
		var c uint64
		r, c = bits.Add64(r, v1, 0)
		if c != 0 {
			return q
		}
	}
}

// less takes q times v from u, and tells whether that went below 0.
func less(u, v []uint64, q uint64) bool {
	carry, borrow := uint64(0), uint64(0)
	for i, w := range v {
		high, low := bits.Mul64(q, w)
		var c uint64
		low, c = bits.Add64(low, carry, 0)
		carry = high + c
		u[i], borrow = bits.Sub64(u[i], low, borrow)
	}
	u[len(v)], borrow = bits.Sub64(u[len(v)], carry, borrow)
	return borrow != 0
}

// back adds v to u, whose carry makes good what was borrowed.
func back(u, v []uint64) {
	carry := uint64(0)
	for i, w := range v {
		u[i], carry = bits.Add64(u[i], w, carry)
	}
	u[len(v)] += carry
}

// Root is the greatest number whose square is not above x.
func Root(x []uint64) []uint64 {
	if len(x) == 0 {
		return nil
	}
	// from above Newton's steps fall until they are there
	z := Shl(Of(1), (Len(x)+1)/2)
	for {
		q, _ := Div(x, z)
		next := Shr(Add(z, q), 1)
		if Cmp(next, z) >= 0 {
			return z
		}
		z = next
	}
}
