package ball

import (
	"math"

	"filigree/bits"
)

// The four reckoned bounds: of floats from +0 on.

func plus(x, y float64) float64 {
	switch {
	case x == 0:
		return y
	case y == 0:
		return x
	}
	return bits.Up(x + y)
}

func times(x, y float64) float64 {
	if x == 0 || y == 0 {
		return 0
	}
	return bits.Up(x * y)
}

func over(x, y float64) float64 {
	if x == 0 {
		return 0
	}
	return bits.Up(x / y)
}

func less(x, y float64) float64 {
	if y == 0 {
		return x
	}
	if math.IsInf(y, 1) { // where x is infinite, too, the difference is no number
		return 0
	}
	return max(0, bits.Down(x-y))
}

// lost bounds what the rounded sum of x and y is away from the exact one.
func lost(x, y float64) float64 {
	sum := x + y
	if x == 0 || y == 0 || sum == 0 {
		return 0
	}
	return bits.Up(math.Abs(sum) * 0x1p-53)
}

func losts(z, w complex128) float64 {
	return plus(lost(real(z), real(w)), lost(imag(z), imag(w)))
}

// spoilt bounds what the product of z and w by parts is away from the exact one.
func spoilt(z, w complex128) float64 {
	if z == 0 || w == 0 {
		return 0
	}
	a, b, c, d := real(z), imag(z), real(w), imag(w)
	re := plus(math.Abs(a*c), math.Abs(b*d))
	im := plus(math.Abs(a*d), math.Abs(b*c))
	return plus(bits.Up(plus(re, im)*0x1p-51), 0x1p-1070)
}
