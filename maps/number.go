package maps

import (
	"math"
	"strconv"
	"strings"

	"filigree/api"
	"filigree/gauss"
	"filigree/ratio"
)

// maxPower is how many digits may stand behind e.
const maxPower = 4

func isDigits(s string) bool {
	for i := range len(s) {
		if s[i] < '0' || s[i] > '9' {
			return false
		}
	}
	return s != ""
}

// bare leaves out the noughts ahead, but for the last digit.
func bare(digits string) string {
	for len(digits) > 1 && digits[0] == '0' {
		digits = digits[1:]
	}
	return digits
}

// decimal writes a number of chapter 11 as chapter 4's decimals are; false, if it is none.
func decimal(text string) (string, bool) {
	digits, power, powered := strings.Cut(text, "e")
	whole, behind, parted := strings.Cut(digits, ".")
	if !isDigits(whole) || parted && !isDigits(behind) {
		return "", false
	}
	s := bare(whole)
	if parted {
		s += "." + behind
	}
	if !powered {
		return s, true
	}
	power, less := strings.CutPrefix(power, "-")
	if !less {
		power = strings.TrimPrefix(power, "+")
	}
	if !isDigits(power) || len(power) > maxPower {
		return "", false
	}
	power = bare(power)
	switch {
	case power == "0":
		return s, true
	case less:
		power = "-" + power
	}
	return s + "e" + power, true
}

func Number(text string) (float64, bool, api.Errno) {
	s, ok := decimal(text)
	if !ok {
		return 0, false, api.ErrArg
	}
	x, e := ratio.Nearest(s)
	if e != api.OK {
		return 0, false, e
	}
	g, e := gauss.Complex(complex(x, 0))
	if e != api.OK {
		return 0, false, e
	}
	written, _ := ratio.Decimal(s)
	float, _ := ratio.Of(g.Re)
	return x, written == float, api.OK
}

func Decimal(x float64) (string, api.Errno) {
	if math.IsNaN(x) || math.IsInf(x, 0) {
		return "", api.ErrFloat
	}
	if x == 0 {
		return "0", api.OK
	}
	// no float has more places behind the point than 1074
	s := strconv.FormatFloat(x, 'f', 1074, 64)
	return strings.TrimSuffix(strings.TrimRight(s, "0"), "."), api.OK
}

// sumText is the sum of the coefficients that are not 0, the highest first.
func sumText(p api.Poly) []byte {
	var text []byte
	for k := len(p) - 1; k >= 0; k-- {
		if p[k] == 0 {
			continue
		}
		if len(text) > 0 {
			text = append(text, " + "...)
		}
		re, _ := Decimal(real(p[k]))
		im, _ := Decimal(imag(p[k]))
		text = append(text, "("+re+" + "+im+"*i)"...)
		if k > 0 {
			text = append(text, "*z"...)
		}
		if k > 1 {
			text = append(text, '^')
			text = strconv.AppendInt(text, int64(k), 10)
		}
	}
	return text
}
