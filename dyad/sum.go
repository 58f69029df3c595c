package dyad

import (
	mathbits "math/bits"
	"strconv"
	"strings"

	"filigree/api"
	"filigree/limb"
	"filigree/nat"
)

func Add(a, b api.Dyad) (api.Dyad, api.Errno) {
	if e := all(a, b); e != api.OK {
		return api.Dyad{}, e
	}
	if a == (api.Dyad{}) {
		return b, api.OK
	}
	if b == (api.Dyad{}) {
		return a, api.OK
	}
	if a.Exp < b.Exp {
		a, b = b, a
	}
	by := a.Exp - b.Exp
	if d, ok := briefSum(a, b, by); ok {
		return d, api.OK
	}
	// the sum keeps b's last bit, which is 1, and it is at least as long as by
	if by > maxBits {
		return api.Dyad{}, api.ErrLong
	}
	x, y := limb.Shl(limb.Read(string(a.N)), by), limb.Read(string(b.N))
	if a.Neg == b.Neg {
		return fit(a.Neg, limb.Add(x, y), b.Exp)
	}
	if limb.Cmp(x, y) < 0 {
		return fit(b.Neg, limb.Sub(y, x), b.Exp)
	}
	return fit(a.Neg, limb.Sub(x, y), b.Exp)
}

// briefSum adds where all goes within one word.
func briefSum(a, b api.Dyad, by int) (api.Dyad, bool) {
	x, okX := nat.Small(a.N)
	y, okY := nat.Small(b.N)
	if !okX || !okY || by > 62 || mathbits.Len64(x)+by > 62 || mathbits.Len64(y) > 62 {
		return api.Dyad{}, false
	}
	n := signed(a.Neg, x<<by) + signed(b.Neg, y)
	d, e := Of(n, b.Exp)
	return d, e == api.OK
}

func signed(neg bool, m uint64) int64 {
	if neg {
		return -int64(m)
	}
	return int64(m)
}

func Sub(a, b api.Dyad) (api.Dyad, api.Errno) {
	if e := all(a, b); e != api.OK {
		return api.Dyad{}, e
	}
	return Add(a, Neg(b))
}

func Mul(a, b api.Dyad) (api.Dyad, api.Errno) {
	if e := all(a, b); e != api.OK {
		return api.Dyad{}, e
	}
	if a == (api.Dyad{}) || b == (api.Dyad{}) {
		return api.Dyad{}, api.OK
	}
	n, e := nat.Mul(a.N, b.N)
	if e != api.OK {
		return api.Dyad{}, e
	}
	return Make(a.Neg != b.Neg, n, a.Exp+b.Exp)
}

func Sum(l ...api.Dyad) (api.Dyad, api.Errno) {
	if e := all(l...); e != api.OK {
		return api.Dyad{}, e
	}
	sum := api.Dyad{}
	for _, d := range l {
		var e api.Errno
		if sum, e = Add(sum, d); e != api.OK {
			return api.Dyad{}, e
		}
	}
	return sum, api.OK
}

func Shift(d api.Dyad, by int) (api.Dyad, api.Errno) {
	if e := Check(d); e != api.OK || d == (api.Dyad{}) {
		return api.Dyad{}, e
	}
	if by > 2*api.MaxExp || by < -2*api.MaxExp { // a sum might wrap
		return api.Dyad{}, api.ErrLong
	}
	return Make(d.Neg, d.N, d.Exp+by)
}

func Floor(d api.Dyad, exp int) (api.Dyad, api.Errno) {
	if e := Check(d); e != api.OK {
		return api.Dyad{}, e
	}
	if exp < -api.MaxExp || exp > api.MaxExp {
		return api.Dyad{}, api.ErrArg
	}
	if d == (api.Dyad{}) || d.Exp >= exp {
		return d, api.OK
	}
	n, _ := nat.Shift(d.N, d.Exp-exp)
	if d.Neg {
		n, _ = nat.Add(n, nat.Of(1))
	}
	return Make(d.Neg, n, exp)
}

func Show(d api.Dyad) (string, api.Errno) {
	if e := Check(d); e != api.OK {
		return "", e
	}
	if d == (api.Dyad{}) {
		return "0", api.OK
	}
	s, _ := nat.Text(d.N)
	if d.Neg {
		s = "-" + s
	}
	return s + "p" + strconv.Itoa(d.Exp), api.OK
}

func Read(s string) (api.Dyad, api.Errno) {
	if s == "0" {
		return api.Dyad{}, api.OK
	}
	digits, neg := strings.CutPrefix(s, "-")
	whole, power, _ := strings.Cut(digits, "p")
	n, e := nat.Read(whole)
	exp, err := strconv.Atoi(power)
	d := api.Dyad{Neg: neg, N: n, Exp: exp}
	if e != api.OK || n == "" || err != nil || strconv.Itoa(exp) != power || Check(d) != api.OK {
		return api.Dyad{}, api.ErrDyad
	}
	return d, api.OK
}
