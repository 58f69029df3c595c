package scene

import (
	"strconv"
	"strings"

	"filigree/angle"
	"filigree/api"
	"filigree/bits"
	"filigree/lang"
	"filigree/maps"
	"filigree/ratio"
)

// field is one of an order's: how it is read, what must be so, how it is shown, and how it is made zero.
type field struct {
	read func(o *api.Order, word string) bool
	ok   func(o api.Order) bool
	show func(o api.Order) string
	drop func(o *api.Order)
}

// shape is an order's word and its fields, in order.
type shape struct {
	word   string
	fields []field
}

func shapes() map[api.OrderKind]shape {
	z := []field{re(), im()}
	circle := append(z[:2:2], float(func(o *api.Order) *float64 { return &o.R }))
	grid := []field{whole(1, api.MaxAcross, fieldN), whole(1, api.MaxAcross, fieldM)}
	a, b := turn(func(o *api.Order) *api.Ratio { return &o.A }), turn(func(o *api.Order) *api.Ratio { return &o.B })
	one := func(low, high int) []field { return []field{whole(low, high, fieldN)} }
	return map[api.OrderKind]shape{
		api.OrderMap:     {"map", []field{text()}},
		api.OrderWindow:  {"window", append(append(z[:2:2], whole(-api.MaxSide, api.MaxSide, fieldK)), grid...)},
		api.OrderSteps:   {"steps", one(0, api.MaxSteps)},
		api.OrderRoots:   {"roots", nil},
		api.OrderSeed:    {"seed", z},
		api.OrderCycles:  {"cycles", one(1, api.MaxPeriod)},
		api.OrderTrap:    {"trap", append(circle[:3:3], one(1, api.MaxPeriod)...)},
		api.OrderTiles:   {"tiles", grid},
		api.OrderWorkers: {"workers", one(1, api.MaxTeam)},
		api.OrderStop:    {"stop", one(0, 1<<31-1)},
		api.OrderDepth:   {"depth", one(0, api.MaxDepth)},
		api.OrderDraw:    {"draw", nil},
		api.OrderAreas:   {"areas", nil},
		api.OrderCertify: {"certify", nil},
		api.OrderAsk:     {"ask", z},
		api.OrderWind:    {"wind", append(circle[:3:3], one(3, api.MaxChain)...)},
		api.OrderAngle:   {"angle", append([]field{a}, one(2, api.MaxTurn)...)},
		api.OrderLeaf:    {"leaf", []field{a, b}},
		api.OrderClass:   {"class", append([]field{a}, one(1, api.MaxDigits)...)},
	}
}

func fieldN(o *api.Order) *int { return &o.N }

func fieldM(o *api.Order) *int { return &o.M }

func fieldK(o *api.Order) *int { return &o.K }

func text() field {
	return field{
		read: func(o *api.Order, word string) bool { o.Text = word; return true },
		ok: func(o api.Order) bool {
			if strings.Contains(o.Text, "\n") || strings.Trim(o.Text, " \t") != o.Text || strings.HasPrefix(o.Text, "#") {
				return false
			}
			_, f := lang.Parse(o.Text)
			return f == nil
		},
		show: func(o api.Order) string { return o.Text },
		drop: func(o *api.Order) { o.Text = "" },
	}
}

func readFloat(word string) (float64, bool) {
	x, e := ratio.Nearest(word)
	return x, e == api.OK && bits.Finite(x)
}

func showFloat(x float64) string {
	s, _ := maps.Decimal(x)
	if x == 0 && bits.Neg(x) {
		return "-0"
	}
	return s
}

func re() field {
	return field{
		read: func(o *api.Order, word string) bool {
			x, ok := readFloat(word)
			o.Z = complex(x, imag(o.Z))
			return ok
		},
		ok:   func(o api.Order) bool { return bits.Finite(real(o.Z)) },
		show: func(o api.Order) string { return showFloat(real(o.Z)) },
		drop: func(o *api.Order) { o.Z = 0 },
	}
}

func im() field {
	return field{
		read: func(o *api.Order, word string) bool {
			x, ok := readFloat(word)
			o.Z = complex(real(o.Z), x)
			return ok
		},
		ok:   func(o api.Order) bool { return bits.Finite(imag(o.Z)) },
		show: func(o api.Order) string { return showFloat(imag(o.Z)) },
		drop: func(o *api.Order) { o.Z = 0 },
	}
}

// float is a finite float above 0.
func float(at func(o *api.Order) *float64) field {
	return field{
		read: func(o *api.Order, word string) bool {
			x, ok := readFloat(word)
			*at(o) = x
			return ok
		},
		ok:   func(o api.Order) bool { x := *at(&o); return bits.Finite(x) && x > 0 },
		show: func(o api.Order) string { return showFloat(*at(&o)) },
		drop: func(o *api.Order) { *at(o) = 0 },
	}
}

// maxDigits is how many digits a whole number has at most.
const maxDigits = 10

func readWhole(word string) (int, bool) {
	n, err := strconv.Atoi(word)
	if err != nil || len(strings.TrimPrefix(word, "-")) > maxDigits || strconv.Itoa(n) != word {
		return 0, false
	}
	return n, true
}

// whole is a whole number from low to high.
func whole(low, high int, at func(o *api.Order) *int) field {
	return field{
		read: func(o *api.Order, word string) bool {
			n, ok := readWhole(word)
			*at(o) = n
			return ok
		},
		ok:   func(o api.Order) bool { n := *at(&o); return n >= low && n <= high },
		show: func(o api.Order) string { return strconv.Itoa(*at(&o)) },
		drop: func(o *api.Order) { *at(o) = 0 },
	}
}

func turn(at func(o *api.Order) *api.Ratio) field {
	return field{
		read: func(o *api.Order, word string) bool {
			a, e := ratio.Read(word)
			*at(o) = a
			return e == api.OK
		},
		ok: func(o api.Order) bool { return angle.Check(*at(&o)) == api.OK },
		show: func(o api.Order) string {
			s, _ := ratio.Text(*at(&o))
			return s
		},
		drop: func(o *api.Order) { *at(o) = api.Ratio{} },
	}
}
