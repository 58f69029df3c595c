package itin

import (
	"strconv"
	"strings"

	"filigree/api"
)

func word(c uint8) string {
	if c == api.Star {
		return "*"
	}
	return strconv.Itoa(int(c))
}

func Text(s api.Itin) (string, api.Errno) {
	if e := Check(s); e != api.OK {
		return "", e
	}
	var text []byte
	for _, c := range s.Pre {
		text = append(text, word(c)+" "...)
	}
	for i, c := range s.Period {
		ahead := " "
		if i == 0 {
			ahead = "("
		}
		text = append(text, ahead+word(c)...)
	}
	return string(append(text, ')')), api.OK
}

// symbols are those of words with one blank between two; false, if one is none.
func symbols(s string) (l []uint8, ok bool) {
	n, digits := 0, 0
	// put puts down what the word that has come to its end says
	put := func() bool {
		if digits == 0 || n >= api.MaxTurn && n != int(api.Star) {
			return false
		}
		l = append(l, uint8(n))
		n, digits = 0, 0
		return true
	}
	for _, r := range s {
		switch {
		case r == ' ':
			if !put() {
				return nil, false
			}
		case r == '*' && digits == 0:
			n, digits = int(api.Star), 2
		case r >= '0' && r <= '9' && digits < 2 && (digits == 0 || n > 0):
			n *= 10
			n += int(r - '0')
			digits++
		default:
			return nil, false
		}
	}
	// put changes l: in one list with it, Go leaves open which l is told
	if !put() {
		return nil, false
	}
	return l, true
}

func Read(s string) (api.Itin, api.Errno) {
	if len(s) > 4*api.MaxItin {
		return api.Itin{}, api.ErrLong
	}
	pre, rest, _ := strings.Cut(s, "(")
	period, ends := strings.CutSuffix(rest, ")")
	var x api.Itin
	okPre, okPeriod := true, false
	if pre != "" {
		var one bool
		pre, one = strings.CutSuffix(pre, " ")
		x.Pre, okPre = symbols(pre)
		okPre = okPre && one
	}
	x.Period, okPeriod = symbols(period)
	if !okPre || !okPeriod || !ends || Check(x) != api.OK {
		return api.Itin{}, api.ErrItin
	}
	return x, api.OK
}
