package view

import (
	"math"

	"filigree/api"
	"filigree/dyad"
	"filigree/gauss"
)

// moved is the lower left corner, so many halves of a side to the right and upwards.
func moved(s api.Square, n int) (re, im api.Dyad, e api.Errno) {
	re, e = dyad.Add(s.Left, halves(n, s.Exp))
	im, f := dyad.Add(s.Low, halves(n, s.Exp))
	if e != api.OK || f != api.OK {
		return api.Dyad{}, api.Dyad{}, api.ErrLong
	}
	return re, im, api.OK
}

func Corners(s api.Square) ([4]api.Gauss, api.Errno) {
	if e := Right(s); e != api.OK {
		return [4]api.Gauss{}, e
	}
	re, im, e := moved(s, 2)
	if e != api.OK {
		return [4]api.Gauss{}, e
	}
	return [4]api.Gauss{{Re: s.Left, Im: s.Low}, {Re: re, Im: s.Low}, {Re: s.Left, Im: im}, {Re: re, Im: im}}, api.OK
}

func Middle(s api.Square) (api.Gauss, api.Errno) {
	if e := Right(s); e != api.OK {
		return api.Gauss{}, e
	}
	re, im, e := moved(s, 1)
	return api.Gauss{Re: re, Im: im}, e
}

func Holds(s api.Square, g api.Gauss) (bool, api.Errno) {
	if e := Right(s); e != api.OK {
		return false, e
	}
	if gauss.Check(g) != api.OK {
		return false, api.ErrArg
	}
	corners, e := Corners(s)
	if e != api.OK {
		return false, e
	}
	least, most := corners[0], corners[3]
	return upTo(least.Re, g.Re) && upTo(g.Re, most.Re) && upTo(least.Im, g.Im) && upTo(g.Im, most.Im), api.OK
}

func upTo(a, b api.Dyad) bool {
	c, _ := dyad.Cmp(a, b)
	return c <= 0
}

func Parts(s api.Square) ([4]api.Square, api.Errno) {
	if Right(s) != api.OK || s.Exp == -api.MaxSide {
		return [4]api.Square{}, api.ErrWindow
	}
	re, im, e := moved(s, 1)
	if e != api.OK {
		return [4]api.Square{}, e
	}
	exp := s.Exp - 1
	return [4]api.Square{{Left: s.Left, Low: s.Low, Exp: exp}, {Left: re, Low: s.Low, Exp: exp}, {Left: s.Left, Low: im, Exp: exp}, {Left: re, Low: im, Exp: exp}}, api.OK
}

func Area(s api.Square) (api.Dyad, api.Errno) {
	if e := Right(s); e != api.OK {
		return api.Dyad{}, e
	}
	return dyad.Of(1, 2*s.Exp)
}

func Cover(s api.Square) (api.Ball, api.Errno) {
	corners, e := Corners(s)
	if e != api.OK {
		return api.Ball{}, e
	}
	middle, e := Middle(s)
	if e != api.OK {
		return api.Ball{}, e
	}
	c, _ := gauss.Near(middle)
	centre, e := gauss.Complex(c)
	if e != api.OK {
		return api.Ball{}, e
	}
	far := api.Dyad{}
	for _, corner := range corners {
		way, e := gauss.Sub(corner, centre)
		norm, f := gauss.Norm(way)
		if e != api.OK || f != api.OK {
			return api.Ball{}, api.ErrLong
		}
		if upTo(far, norm) {
			far = norm
		}
	}
	r := rootAbove(far)
	if math.IsInf(r, 1) {
		return api.Ball{}, api.ErrFloat
	}
	return api.Ball{C: c, R: r}, api.OK
}

// reaches tells whether the square of the float with those bits is at least d.
func reaches(bits uint64, d api.Dyad) bool {
	x, e := dyad.Float(math.Float64frombits(bits))
	if e != api.OK { // the infinity
		return true
	}
	x, _ = dyad.Mul(x, x) // a float's square fits
	return upTo(d, x)
}

// rootAbove is the least float from 0 on whose square is at least d, found by halving between the bits.
func rootAbove(d api.Dyad) float64 {
	low, high := uint64(0), math.Float64bits(math.Inf(1))
	// a root by floats is right but for its last bits: mostly these alone are left to be found
	if x, _ := dyad.Above(d); x > 0x1p-1000 && x < 0x1p1000 {
		near := math.Float64bits(math.Sqrt(x))
		if reaches(near+2, d) && !reaches(near-3, d) {
			low, high = near-2, near+2
		}
	}
	for low < high {
		between := low + (high-low)/2
		if reaches(between, d) {
			high = between
		} else {
			low = between + 1
		}
	}
	return math.Float64frombits(low)
}
