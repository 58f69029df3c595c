package limb

import "math/bits"

// steps are some steps of Euclid's way, put together: of a and b they make u0 a and v0 b, u1 a and v1 b, of unlike signs: a's is the one that is taken from, if even is not so.
type steps struct {
	u0, v0, u1, v1 uint64
	even           bool
}

// Gcd is the greatest common divisor; the other one, if one is 0.
func Gcd(a, b []uint64) []uint64 {
	if Cmp(a, b) < 0 {
		a, b = b, a
	}
	for len(b) > 1 {
		s := guess(a, b)
		if s.v0 == 0 {
			_, rest := Div(a, b)
			a, b = b, rest
			continue
		}
		a, b = s.do(a, b)
	}
	if len(b) == 0 {
		return append([]uint64(nil), a...)
	}
	_, x := Take(a, b[0])
	y := b[0]
	for x != 0 {
		x, y = y%x, x
	}
	return Of(y)
}

// guess goes Euclid's way with the highest words alone, as far as these surely tell the quotients (Collins' condition).
func guess(a, b []uint64) steps {
	n := len(a)
	by := bits.LeadingZeros64(a[n-1])
	top := a[n-1]<<by | a[n-2]>>(word-by)
	low := uint64(0)
	switch len(b) {
	case n:
		low = b[n-1]<<by | b[n-2]>>(word-by)
	case n - 1:
		low = b[n-2] >> (word - by)
	}
	s := steps{u1: 1}
	u2, v2 := uint64(0), uint64(1)
	for low >= v2 && top-low >= s.v1+v2 {
		q := top / low
		top, low = low, top%low
		s.u0, s.u1, u2 = s.u1, u2, s.u1+q*u2
		s.v0, s.v1, v2 = s.v1, v2, s.v1+q*v2
		s.even = !s.even
	}
	return s
}

func (s steps) do(a, b []uint64) ([]uint64, []uint64) {
	if s.even {
		return apart(a, s.u0, b, s.v0), apart(b, s.v1, a, s.u1)
	}
	return apart(b, s.v0, a, s.u0), apart(a, s.u1, b, s.v1)
}

// apart is u a less v b.
func apart(a []uint64, u uint64, b []uint64, v uint64) []uint64 {
	return Sub(Put(a, u, 0), Put(b, v, 0))
}
