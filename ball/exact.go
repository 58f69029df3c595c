package ball

import (
	"filigree/api"
	"filigree/bits"
	"filigree/cplx"
	"filigree/dyad"
	"filigree/gauss"
	"filigree/limb"
	"filigree/round"
)

func Around(g api.Gauss, r api.Dyad) (api.Ball, api.Errno) {
	if gauss.Check(g) != api.OK || dyad.Check(r) != api.OK || r.Neg {
		return api.Ball{}, api.ErrArg
	}
	c, _ := gauss.Near(g)
	near, e := gauss.Complex(c)
	if e != api.OK {
		return Whole(), api.OK
	}
	// the differences fit: they are shorter than the parts themselves
	re, _ := dyad.Sub(g.Re, near.Re)
	im, _ := dyad.Sub(g.Im, near.Im)
	return told(c, sumAbove(r, dyad.Abs(re), dyad.Abs(im))), api.OK
}

// sumAbove is the least float that is not below the exact sum of dyads from 0 on, which need not fit.
func sumAbove(l ...api.Dyad) float64 {
	if sum, e := dyad.Sum(l...); e == api.OK {
		x, _ := dyad.Above(sum)
		return x
	}
	exp := lowest(l...)
	var sum []uint64
	for _, d := range l {
		sum = limb.Add(sum, limb.Shl(limb.Read(string(d.N)), d.Exp-exp))
	}
	top := limb.Len(sum) - 1 + exp
	if top > 1023 {
		return round.Huge(false, round.Above)
	}
	least := round.Least(top)
	rest := round.None
	if limb.Low(sum) < least-exp {
		rest = round.More
	}
	m := limb.Shl(limb.Shr(sum, max(least-exp, 0)), max(exp-least, 0))
	whole := uint64(0)
	if len(m) > 0 {
		whole = m[0]
	}
	return round.Float(false, whole, least, rest, round.Above)
}

// lowest is the least exponent of those that are not 0.
func lowest(l ...api.Dyad) int {
	exp := api.MaxExp
	for _, d := range l {
		if d != (api.Dyad{}) {
			exp = min(exp, d.Exp)
		}
	}
	return exp
}

func Holds(a api.Ball, g api.Gauss) bool {
	if gauss.Check(g) != api.OK {
		return false
	}
	if IsWhole(a) {
		return true
	}
	c, r := exact(a)
	in, e := gauss.In(g, c, r)
	if e != api.OK {
		return holdsLong(c, r, g)
	}
	return in
}

// exact is the centre and the radius of a ball with finite parts.
func exact(a api.Ball) (api.Gauss, api.Dyad) {
	c, _ := gauss.Complex(a.C)
	r, _ := dyad.Float(a.R)
	return c, r
}

// holdsLong decides where the squares do not fit as dyads.
func holdsLong(c api.Gauss, r api.Dyad, g api.Gauss) bool {
	for _, d := range []api.Dyad{g.Re, g.Im} {
		if top, _ := dyad.Top(d); top > 1100 { // farther than any two floats
			return false
		}
	}
	exp := lowest(c.Re, c.Im, r, g.Re, g.Im)
	x, y := apart(g.Re, c.Re, exp), apart(g.Im, c.Im, exp)
	room := spread(r, exp)
	return limb.Cmp(limb.Add(limb.Mul(x, x), limb.Mul(y, y)), limb.Mul(room, room)) <= 0
}

// spread is the magnitude of d in units of 2 to the power exp.
func spread(d api.Dyad, exp int) []uint64 {
	return limb.Shl(limb.Read(string(d.N)), max(d.Exp-exp, 0))
}

// apart is the magnitude of the difference of a and b in units of 2 to the power exp.
func apart(a, b api.Dyad, exp int) []uint64 {
	x, y := spread(a, exp), spread(b, exp)
	switch {
	case a.Neg != b.Neg:
		return limb.Add(x, y)
	case limb.Cmp(x, y) < 0:
		return limb.Sub(y, x)
	}
	return limb.Sub(x, y)
}

func Has(a api.Ball, z complex128) bool {
	if IsWhole(a) {
		return true
	}
	return cplx.Kind(z) == api.CplxFinite && Inside(Point(z), a)
}

// Inside asks the bounds by floats first: they decide nearly always, and where they do not the exact numbers do.
func Inside(a, b api.Ball) bool {
	switch {
	case IsWhole(b):
		return true
	case IsWhole(a) || a.R > b.R:
		return false
	case a.C == b.C:
		return true
	}
	way := gap(a, b)
	if plus(Hi(way), a.R) <= b.R {
		return true
	}
	if Lo(way) > bits.Up(b.R-a.R) {
		return false
	}
	c, r := exact(a)
	d, s := exact(b)
	in, _ := gauss.Within(c, r, d, s)
	return in
}

func Apart(a, b api.Ball) bool {
	if IsWhole(a) || IsWhole(b) || a.C == b.C {
		return false
	}
	way := gap(a, b)
	if Lo(way) > plus(a.R, b.R) {
		return true
	}
	if Hi(way) <= bits.Down(a.R+b.R) {
		return false
	}
	c, r := exact(a)
	d, s := exact(b)
	is, _ := gauss.Apart(c, r, d, s)
	return is
}
