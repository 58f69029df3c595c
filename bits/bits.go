// Package bits is layer 1: see shared/doc/01-bits.md.
package bits

import (
	"math"
	mathbits "math/bits"
	"strconv"
	"strings"

	"filigree/api"
)

const (
	signBit   = 1 << 63
	fraction  = 1<<52 - 1
	topPower  = 0x7ff // the power field of what is not finite
	infinity  = topPower << 52
	leastExp  = -1074
	mostExp   = 1023
	plusStart = infinity + 1 // the place of +0
	nanPlace  = plusStart + infinity + 1
)

// KindOf climbs: each kind is one more than the one below it.
func KindOf(x float64) api.Kind {
	b := math.Float64bits(x)
	b &^= signBit
	power := b >> 52
	kind := api.Nought
	switch {
	case x != x:
		kind++
		fallthrough
	case power == topPower:
		kind++
		fallthrough
	case power != 0:
		kind++
		fallthrough
	case b != 0:
		kind++
	}
	return kind
}

func Finite(x float64) bool { return KindOf(x) < api.Infinite }

func Neg(x float64) bool { return x == x && math.Float64bits(x)&signBit != 0 }

func Parts(x float64) (neg bool, m uint64, e int, ok bool) {
	if !Finite(x) {
		return false, 0, 0, false
	}
	b := math.Float64bits(x)
	neg = b&signBit != 0
	b &^= signBit
	if b == 0 {
		return neg, 0, 0, true
	}
	m, e = b&fraction, leastExp
	if power := int(b >> 52); power != 0 {
		m |= 1 << 52
		e += power - 1
	}
	low := mathbits.TrailingZeros64(m)
	m >>= low
	return neg, m, e + low, true
}

func Make(neg bool, m uint64, e int) (float64, bool) {
	if m == 0 {
		return signed(neg, 0), true
	}
	// far powers are refused ahead of any sum, which might wrap
	if e > mostExp || e < leastExp-63 {
		return 0, false
	}
	low := mathbits.TrailingZeros64(m)
	m >>= low
	e += low
	wide := mathbits.Len64(m)
	if wide > 53 || e < leastExp || e+wide-1 > mostExp {
		return 0, false
	}
	if top := e + wide - 1; top > -1023 {
		m <<= 53 - wide
		m &= fraction
		m |= uint64(top+1023) << 52
	} else {
		m <<= e - leastExp
	}
	return signed(neg, m), true
}

func signed(neg bool, b uint64) float64 {
	if neg {
		b |= signBit
	}
	return math.Float64frombits(b)
}

func Scale(x float64, k int) (float64, bool) {
	neg, m, e, ok := Parts(x)
	if !ok {
		return 0, false
	}
	if m == 0 {
		return x, true
	}
	if k < -4096 || k > 4096 { // beyond all floats, and a sum with e might wrap
		return 0, false
	}
	return Make(neg, m, e+k)
}

func Up(x float64) float64 {
	b := math.Float64bits(x)
	switch {
	case x != x || b == infinity:
		return x
	case x == 0:
		return math.Float64frombits(1)
	case b&signBit != 0:
		b--
	default:
		b++
	}
	return math.Float64frombits(b)
}

func Down(x float64) float64 { return -Up(-x) }

func Like(a, b float64) bool {
	return a != a && b != b || math.Float64bits(a) == math.Float64bits(b)
}

func Order(a, b float64) int {
	p, q := Place(a), Place(b)
	switch {
	case p < q:
		return -1
	case p > q:
		return 1
	}
	return 0
}

func Place(x float64) uint64 {
	b := math.Float64bits(x)
	switch {
	case x != x:
		return nanPlace
	case b&signBit != 0:
		return infinity - b&^signBit
	}
	return plusStart + b
}

func At(place uint64) (float64, bool) {
	switch {
	case place > nanPlace:
		return 0, false
	case place == nanPlace:
		return math.NaN(), true
	case place < plusStart:
		return math.Float64frombits(signBit | (infinity - place)), true
	}
	return math.Float64frombits(place - plusStart), true
}

func Text(x float64) string {
	neg, m, e, ok := Parts(x)
	sign := ""
	if neg || x < 0 {
		sign = "-"
	}
	switch {
	case x != x:
		return "nan"
	case !ok:
		return sign + "inf"
	case m == 0:
		return sign + "0"
	}
	return sign + strconv.FormatUint(m, 10) + "p" + strconv.Itoa(e)
}

func Read(s string) (float64, api.Errno) {
	x, ok := guess(s)
	// a text in another form says its number, but is not that number's text
	if !ok || Text(x) != s {
		return 0, api.ErrFloatText
	}
	return x, api.OK
}

func guess(s string) (float64, bool) {
	digits, neg := strings.CutPrefix(s, "-")
	switch digits {
	case "nan":
		return math.NaN(), true
	case "inf":
		return math.Inf(1 - 2*btoi(neg)), true
	case "0":
		return signed(neg, 0), true
	}
	whole, power, _ := strings.Cut(digits, "p")
	m, errM := strconv.ParseUint(whole, 10, 64)
	e, errE := strconv.Atoi(power)
	if errM != nil || errE != nil {
		return 0, false
	}
	return Make(neg, m, e)
}

func btoi(b bool) int {
	if b {
		return 1
	}
	return 0
}
