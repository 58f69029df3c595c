package nat

import (
	"slices"

	"filigree/api"
	"filigree/limb"
)

const (
	chunk    = 19                   // decimal digits that one word surely takes
	ten19    = 10000000000000000000 // 10 to the power 19
	maxTexts = 39457                // decimal digits of the greatest number
)

func Text(a api.Nat) (string, api.Errno) {
	if e := Check(a); e != api.OK {
		return "", e
	}
	if a == "" {
		return "0", api.OK
	}
	// the digits are put down from the lowest one on
	var text []byte
	x := words(a)
	for len(x) > 0 {
		var low uint64
		x, low = limb.Take(x, ten19)
		for i := 0; i < chunk && (len(x) > 0 || low > 0); i++ {
			text = append(text, '0'+byte(low%10))
			low /= 10
		}
	}
	slices.Reverse(text)
	return string(text), api.OK
}

func Read(s string) (api.Nat, api.Errno) {
	if s == "" || s[0] == '0' && len(s) > 1 {
		return "", api.ErrDigits
	}
	for i := range len(s) {
		if s[i] < '0' || s[i] > '9' {
			return "", api.ErrDigits
		}
	}
	if len(s) > maxTexts {
		return "", api.ErrLong
	}
	var x []uint64
	part, ten := uint64(0), uint64(1)
	for i := range len(s) {
		part *= 10
		part += uint64(s[i] - '0')
		ten *= 10
		if ten == ten19 || i == len(s)-1 {
			x = limb.Put(x, ten, part)
			part, ten = 0, 1
		}
	}
	return made(x)
}
