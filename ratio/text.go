package ratio

import (
	"math"
	"strings"

	"filigree/api"
	"filigree/limb"
	"filigree/nat"
)

func Text(a api.Ratio) (string, api.Errno) {
	if !May(a) {
		return "", api.ErrArg
	}
	s, _ := nat.Text(a.Num)
	if a.Neg {
		s = "-" + s
	}
	if a.Den != one {
		den, _ := nat.Text(a.Den)
		s += "/" + den
	}
	return s, api.OK
}

func Read(s string) (api.Ratio, api.Errno) {
	if len(s) > api.MaxRatioText {
		return api.Ratio{}, api.ErrLong
	}
	digits, neg := strings.CutPrefix(s, "-")
	above, below, parted := strings.Cut(digits, "/")
	a := api.Ratio{Neg: neg, Den: one}
	var e, f api.Errno
	a.Num, e = nat.Read(above)
	if parted {
		a.Den, f = nat.Read(below)
	}
	if e != api.OK || f != api.OK || parted && a.Den == one || !May(a) {
		return api.Ratio{}, api.ErrRatioText
	}
	return a, api.OK
}

// decimal is a decimal's text in its parts: all digits with those behind the point, how many these are, and the digits of its power.
type decimal struct {
	neg, less     bool
	digits, power string
	behind        int
}

func isDigit(c byte) bool { return '0' <= c && c <= '9' }

// scan parts a text; ok is false, if it is no decimal.
func scan(s string) (d decimal, ok bool) {
	s, d.neg = strings.CutPrefix(s, "-")
	s += "\x00" // ends all digits
	at, from := 0, 0
	if s[at] == '0' {
		at++
		goto whole
	}
first:
	if !isDigit(s[at]) {
		goto whole
	}
	at++
	goto first
whole:
	if d.digits = s[:at]; at == 0 {
		return decimal{}, false
	}
	if s[at] != '.' {
		goto power
	}
	at++
	from = at
point:
	if isDigit(s[at]) {
		at++
		goto point
	}
	if d.behind = at - from; d.behind == 0 {
		return decimal{}, false
	}
	d.digits += s[from:at]
power:
	if s[at] != 'e' {
		goto end
	}
	at++
	if d.less = s[at] == '-'; d.less {
		at++
	}
	from = at
	if s[at] == '0' && !d.less {
		at++
		goto done
	}
	if s[at] == '0' {
		return decimal{}, false
	}
more:
	if isDigit(s[at]) {
		at++
		goto more
	}
done:
	if d.power = s[from:at]; d.power == "" {
		return decimal{}, false
	}
end:
	return d, at == len(s)-1
}

// small is the number of a power's digits; what is above MaxTen counts as 1 more than it.
func small(digits string) int {
	n := 0
	for _, r := range digits {
		n *= 10
		n += int(r - '0')
		n = min(n, api.MaxTen+1)
	}
	return n
}

func (d decimal) value() (api.Ratio, api.Errno) {
	ten := small(d.power)
	if ten > api.MaxTen {
		return api.Ratio{}, api.ErrLong
	}
	if d.less {
		ten = -ten
	}
	ten -= d.behind
	var num []uint64
	for _, r := range d.digits {
		num = limb.Put(num, 10, uint64(r-'0'))
	}
	up, _ := nat.Pow(nat.Of(10), max(ten, 0))
	down, _ := nat.Pow(nat.Of(10), max(-ten, 0))
	return frac{d.neg, limb.Mul(num, words(up)), words(down)}.lowest()
}

func Decimal(s string) (api.Ratio, api.Errno) {
	if len(s) > api.MaxDecimal {
		return api.Ratio{}, api.ErrLong
	}
	d, ok := scan(s)
	if !ok {
		return api.Ratio{}, api.ErrRatioText
	}
	return d.value()
}

func Nearest(s string) (float64, api.Errno) {
	a, e := Decimal(s)
	if e != api.OK {
		return 0, e
	}
	if a.Num == "" && strings.HasPrefix(s, "-") {
		return math.Copysign(0, -1), api.OK
	}
	return Float(a)
}
