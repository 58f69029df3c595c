package scene

import (
	"math"
	"slices"
	"strings"
	"testing"

	"filigree/angle"
	"filigree/api"
)

var (
	none  = api.Order{}
	minus = math.Copysign(0, -1)
)

func a(num, den int64) api.Ratio {
	x, e := angle.Make(num, den)
	if e != api.OK {
		panic(e)
	}
	return x
}

// lines are orders and their lines.
func lines() map[string]api.Order {
	return map[string]api.Order{
		"map z^2 + 0.25":           {Kind: api.OrderMap, Text: "z^2 + 0.25"},
		"window -0.5 0 -3 16 16":   {Kind: api.OrderWindow, Z: -0.5, K: -3, N: 16, M: 16},
		"steps 0":                  {Kind: api.OrderSteps},
		"steps 4096":               {Kind: api.OrderSteps, N: 4096},
		"roots":                    {Kind: api.OrderRoots},
		"seed 0 -0":                {Kind: api.OrderSeed, Z: complex(0, minus)},
		"cycles 32":                {Kind: api.OrderCycles, N: 32},
		"trap 0 0.125 0.5 2":       {Kind: api.OrderTrap, Z: 0.125i, R: 0.5, N: 2},
		"tiles 1 65536":            {Kind: api.OrderTiles, N: 1, M: 65536},
		"workers 64":               {Kind: api.OrderWorkers, N: 64},
		"stop 2147483647":          {Kind: api.OrderStop, N: 1<<31 - 1},
		"depth 40":                 {Kind: api.OrderDepth, N: 40},
		"draw":                     {Kind: api.OrderDraw},
		"areas":                    {Kind: api.OrderAreas},
		"certify":                  {Kind: api.OrderCertify},
		"ask 1 -2":                 {Kind: api.OrderAsk, Z: 1 - 2i},
		"wind 0 0 1 3":             {Kind: api.OrderWind, R: 1, N: 3},
		"angle 1/7 64":             {Kind: api.OrderAngle, A: a(1, 7), N: 64},
		"leaf 2/3 0":               {Kind: api.OrderLeaf, A: a(2, 3), B: a(0, 1)},
		"class 0 1024":             {Kind: api.OrderClass, A: a(0, 1), N: 1024},
		"window 0 0 -4096 1 1":     {Kind: api.OrderWindow, K: -4096, N: 1, M: 1},
		"wind 0.5 0 0.25 4096":     {Kind: api.OrderWind, Z: 0.5, R: 0.25, N: 4096},
		"map let a = 1; # b":       {Kind: api.OrderMap, Text: "let a = 1; # b"},
		"leaf 1/2147483647 5/8":    {Kind: api.OrderLeaf, A: a(1, 2147483647), B: a(5, 8)},
		"map z # a note\tand more": {Kind: api.OrderMap, Text: "z # a note\tand more"},
	}
}

func TestP30_1(t *testing.T) {
	words := strings.Fields("map window steps roots seed cycles trap tiles workers stop depth draw areas certify ask wind angle leaf class")
	for i, w := range words {
		k := api.OrderKind(i + 1)
		if s, ok := Word(k); s != w || !ok {
			t.Error(k, s)
		}
		if x, ok := Kind(w); x != k || !ok {
			t.Error(w, x)
		}
	}
	for _, k := range []api.OrderKind{0, 20, 255} {
		if s, ok := Word(k); s != "" || ok {
			t.Error(k, s)
		}
	}
	for _, w := range []string{"", "Map", "maps", "map ", "paint"} {
		if k, ok := Kind(w); k != 0 || ok {
			t.Error(w, k)
		}
	}
}

func TestP30_2Check(t *testing.T) {
	for s, o := range lines() {
		if strings.Contains(s, "let a") {
			if at, e := Check(o); at != 1 || e != api.ErrMap {
				t.Error(s, at, e)
			}
			continue
		}
		if at, e := Check(o); at != 0 || e != api.OK {
			t.Error(s, at, e)
		}
		if l, e := Line(o); l != s || e != api.OK {
			t.Error(s, l, e)
		}
		// each field that a kind does not have must be zero
		for i, change := range []func(o *api.Order){func(o *api.Order) { o.Text = "z" }, func(o *api.Order) { o.Z = complex(minus, 0) }, func(o *api.Order) { o.Z = complex(0, minus) }, func(o *api.Order) { o.R = minus }, func(o *api.Order) { o.R = math.NaN() }, func(o *api.Order) { o.N = -1 }, func(o *api.Order) { o.M = 1 }, func(o *api.Order) { o.K = 1 }, func(o *api.Order) { o.A = a(1, 3) }, func(o *api.Order) { o.B = a(0, 1) }} {
			p := o
			change(&p)
			word := strings.Fields(s)[0]
			has := map[string]string{"map": "0", "window": "12567", "steps": "5", "seed": "12", "cycles": "5", "trap": "12345", "tiles": "56", "workers": "5", "stop": "5", "depth": "5", "ask": "12", "wind": "12345", "angle": "58", "leaf": "89", "class": "58"}
			if strings.Contains(has[word], string(rune('0'+i))) || i == 7 && word == "window" {
				continue
			}
			if at, e := Check(p); at != 0 || e != api.ErrFields {
				t.Error(s, i, at, e)
			}
			if l, e := Line(p); l != "" || e != api.ErrFields {
				t.Error(s, i, l, e)
			}
		}
	}
	nan, inf := math.NaN(), math.Inf(1)
	bad := api.Ratio{Num: "\x01", Den: "\x01"}
	for _, c := range []struct {
		o  api.Order
		at int
		e  api.Errno
	}{
		{api.Order{}, 0, api.ErrWord}, {api.Order{Kind: 20, R: nan}, 0, api.ErrWord},
		{api.Order{Kind: api.OrderSteps, R: 1}, 0, api.ErrFields}, {api.Order{Kind: api.OrderSteps, N: -1}, 1, api.ErrField}, {api.Order{Kind: api.OrderSteps, N: -1, R: 1}, 1, api.ErrField}, {api.Order{Kind: api.OrderSteps, N: 4097}, 1, api.ErrField},
		{api.Order{Kind: api.OrderMap}, 1, api.ErrMap}, {api.Order{Kind: api.OrderMap, Text: " z"}, 1, api.ErrMap}, {api.Order{Kind: api.OrderMap, Text: "z\t"}, 1, api.ErrMap}, {api.Order{Kind: api.OrderMap, Text: "z\n+1"}, 1, api.ErrMap}, {api.Order{Kind: api.OrderMap, Text: "z^"}, 1, api.ErrMap}, {api.Order{Kind: api.OrderMap, Text: "#z"}, 1, api.ErrMap}, {api.Order{Kind: api.OrderMap, Text: "z", N: 1}, 0, api.ErrFields},
		{api.Order{Kind: api.OrderSeed, Z: complex(nan, nan)}, 1, api.ErrField}, {api.Order{Kind: api.OrderSeed, Z: complex(0, inf)}, 2, api.ErrField},
		{api.Order{Kind: api.OrderWindow, Z: complex(0, nan), K: 5000}, 2, api.ErrField}, {api.Order{Kind: api.OrderWindow, K: 4097}, 3, api.ErrField}, {api.Order{Kind: api.OrderWindow, K: -4097, N: 1, M: 1}, 3, api.ErrField}, {api.Order{Kind: api.OrderWindow, M: 1}, 4, api.ErrField}, {api.Order{Kind: api.OrderWindow, N: 1, M: 65537}, 5, api.ErrField},
		{api.Order{Kind: api.OrderTrap, N: 1}, 3, api.ErrField}, {api.Order{Kind: api.OrderTrap, R: inf, N: 1}, 3, api.ErrField}, {api.Order{Kind: api.OrderTrap, R: -1, N: 1}, 3, api.ErrField}, {api.Order{Kind: api.OrderTrap, R: nan, N: 1}, 3, api.ErrField}, {api.Order{Kind: api.OrderTrap, R: 1}, 4, api.ErrField}, {api.Order{Kind: api.OrderTrap, R: 1, N: 33}, 4, api.ErrField},
		{api.Order{Kind: api.OrderCycles}, 1, api.ErrField}, {api.Order{Kind: api.OrderTiles, N: 1}, 2, api.ErrField}, {api.Order{Kind: api.OrderWorkers, N: 65}, 1, api.ErrField}, {api.Order{Kind: api.OrderWorkers}, 1, api.ErrField}, {api.Order{Kind: api.OrderStop, N: 1 << 31}, 1, api.ErrField}, {api.Order{Kind: api.OrderDepth, N: 41}, 1, api.ErrField},
		{api.Order{Kind: api.OrderWind, R: 1, N: 2}, 4, api.ErrField}, {api.Order{Kind: api.OrderWind, R: 1, N: 4097}, 4, api.ErrField},
		{api.Order{Kind: api.OrderAngle, A: bad, N: 1}, 1, api.ErrField}, {api.Order{Kind: api.OrderAngle, A: a(1, 3), N: 1}, 2, api.ErrField}, {api.Order{Kind: api.OrderAngle, A: a(1, 3), N: 65}, 2, api.ErrField}, {api.Order{Kind: api.OrderAngle, N: 2}, 1, api.ErrField},
		{api.Order{Kind: api.OrderLeaf, A: a(1, 3), B: bad}, 2, api.ErrField}, {api.Order{Kind: api.OrderClass, A: a(1, 3)}, 2, api.ErrField}, {api.Order{Kind: api.OrderClass, A: a(1, 3), N: 1025}, 2, api.ErrField},
	} {
		at, e := Check(c.o)
		l, f := Line(c.o)
		if at != c.at || e != c.e || l != "" || f != c.e {
			t.Error(c.o, at, e, l, f)
		}
	}
	if l, _ := Line(api.Order{Kind: api.OrderTrap, Z: -0.1, R: 0.5, N: 2}); l != "trap -0.1000000000000000055511151231257827021181583404541015625 0 0.5 2" {
		t.Error(l)
	}
}

func TestP30_3Read(t *testing.T) {
	for s, o := range lines() {
		if strings.Contains(s, "let a") {
			continue
		}
		for _, l := range []string{s, " \t" + s + "\t ", strings.Replace(s, " ", "\t  ", 1)} {
			p, some, f := Read(l)
			if !Same(o, p) || !some || f != nil {
				t.Error(l, p, some, f)
			}
		}
	}
	for _, s := range []string{"", "  ", "\t", "# note", " \t#note 1 2", "#\n", "#"} {
		if o, some, f := Read(s); !Same(o, none) || some || f != nil {
			t.Error(s, o, some, f)
		}
	}
	for _, c := range []struct {
		s     string
		field int
		e     api.Errno
	}{{"draw now", 0, api.ErrFields}, {"paint", 0, api.ErrWord}, {"steps 5000", 1, api.ErrField}, {"map z^", 1, api.ErrMap}, {"angle 2/3 1", 2, api.ErrField}, {"draw\n", 0, api.ErrArg}, {"\n", 0, api.ErrArg}, {"paint\n", 0, api.ErrArg}, {"map", 0, api.ErrFields}, {"map \t ", 0, api.ErrFields}, {"map #z", 1, api.ErrMap}, {"steps", 0, api.ErrFields}, {"steps 1 2", 0, api.ErrFields}, {"steps x y", 0, api.ErrFields}, {"Draw", 0, api.ErrWord}, {"draw\r", 0, api.ErrWord},
		{"steps 01", 1, api.ErrField}, {"steps +1", 1, api.ErrField}, {"steps -0", 1, api.ErrField}, {"steps 1.0", 1, api.ErrField}, {"steps 00000000001", 1, api.ErrField}, {"steps -1", 1, api.ErrField}, {"stop 2147483648", 1, api.ErrField}, {"stop 12345678901", 1, api.ErrField}, {"stop 99999999999999999999", 1, api.ErrField}, {"stop ", 0, api.ErrFields},
		{"seed 1. 0", 1, api.ErrField}, {"seed 1e309 0", 1, api.ErrField}, {"seed 0 1e5001", 2, api.ErrField}, {"seed 0 nan", 2, api.ErrField}, {"seed .5 x", 1, api.ErrField}, {"seed 0 +1", 2, api.ErrField}, {"seed 0 " + strings.Repeat("1", 4097), 2, api.ErrField},
		{"trap 0 0 0 1", 3, api.ErrField}, {"trap 0 0 -1 1", 3, api.ErrField}, {"trap 0 0 1e-400 1", 3, api.ErrField}, {"trap 0 0 1 0", 4, api.ErrField}, {"window 0 0 x 0 0", 3, api.ErrField}, {"window 0 0 0 0 0", 4, api.ErrField}, {"window 0 0 0 1 0", 5, api.ErrField},
		{"leaf 1 0", 1, api.ErrField}, {"leaf 2/4 0", 1, api.ErrField}, {"leaf 0 -1/3", 2, api.ErrField}, {"leaf 0 1/2147483648", 2, api.ErrField}, {"leaf 0/1 0", 1, api.ErrField}, {"angle 0.5 2", 1, api.ErrField}} {
		o, some, f := Read(c.s)
		if !Same(o, none) || some || f == nil || *f != (api.SceneFault{Line: 1, Field: c.field, Code: c.e}) {
			t.Error(c.s, o, some, f)
		}
	}
	if o, _, _ := Read("seed -0 1e-400"); !Same(o, api.Order{Kind: api.OrderSeed, Z: complex(minus, 0)}) {
		t.Error("noughts of either sign", o)
	}
	for _, s := range []string{"seed 0.1 0", "seed 0.10000000000000000001 0", "seed 1e-1 0", "seed 0.1000000000000000055511151231257827021181583404541015625 0"} {
		if o, _, _ := Read(s); o.Z != 0.1 {
			t.Error("nearest", s, o)
		}
	}
}

func TestP30_4_P30_7(t *testing.T) {
	l, f := Parse("steps 9\n\nfly\ndraw")
	if l != nil || f == nil || *f != (api.SceneFault{Line: 3, Code: api.ErrWord}) {
		t.Error(l, f)
	}
	text := "map z^2\n # a note\nsteps 9\n\tdraw \n"
	l, f = Parse(text)
	if len(l) != 3 || f != nil || l[1].N != 9 || l[2].Kind != api.OrderDraw {
		t.Error(l, f)
	}
	m, f := Parse(text + "ask 1 2")
	if len(m) != 4 || f != nil || !slices.EqualFunc(m[:3], l, Same) {
		t.Error(m, f)
	}
	n := 0
	for o, f := range Each(text + "steps -1\ndraw") {
		if n++; n <= 3 && (f != nil || !Same(o, l[n-1])) || n == 4 && (f == nil || *f != (api.SceneFault{Line: 5, Field: 1, Code: api.ErrField}) || !Same(o, none)) || n > 4 {
			t.Error(n, o, f)
		}
	}
	if n != 4 {
		t.Error(n)
	}
	for range Each(text) {
		break
	}
	if l, f := Parse(""); len(l) != 0 || f != nil {
		t.Error(l, f)
	}
	long := strings.Repeat(" ", api.MaxScene)
	if l, f := Parse(long); len(l) != 0 || f != nil {
		t.Error(l, f)
	}
	if l, f := Parse(long + "\n"); l != nil || f == nil || *f != (api.SceneFault{Code: api.ErrLong}) {
		t.Error(l, f)
	}
	many := strings.Repeat("draw\n#\n", api.MaxOrders)
	if l, f := Parse(many); len(l) != api.MaxOrders || f != nil {
		t.Error(len(l), f)
	}
	if l, f := Parse(many + "\ndraw"); l != nil || f == nil || *f != (api.SceneFault{Line: 2*api.MaxOrders + 2, Code: api.ErrLong}) {
		t.Error(len(l), f)
	}
	n = 0
	for _, f := range Each(many + "draw") {
		if n++; (f != nil) != (n > api.MaxOrders) {
			t.Error(n, f)
		}
	}
}

func TestP30_5_P30_6(t *testing.T) {
	var orders []api.Order
	for s, o := range lines() {
		if !strings.Contains(s, "let a") {
			orders = append(orders, o)
		}
	}
	text, at, e := Print(orders...)
	if at != 0 || e != api.OK || strings.Count(text, "\n") != len(orders) {
		t.Error(at, e)
	}
	back, f := Parse(text)
	if f != nil || !slices.EqualFunc(back, orders, Same) {
		t.Error(f)
	}
	if again, _, _ := Print(back...); again != text {
		t.Error("printed again")
	}
	if s, at, e := Print(); s != "" || at != 0 || e != api.OK {
		t.Error(s, at, e)
	}
	draw := api.Order{Kind: api.OrderDraw}
	long := api.Order{Kind: api.OrderMap, Text: "z+" + strings.Repeat("1", api.MaxMap-2)}
	for i, c := range []struct {
		l  []api.Order
		at int
		e  api.Errno
	}{{[]api.Order{draw, {Kind: api.OrderSteps, N: -1}, {}}, 1, api.ErrField}, {[]api.Order{draw, {}}, 1, api.ErrWord}, {[]api.Order{{Kind: api.OrderDraw, N: 1}}, 0, api.ErrFields}, {append(slices.Repeat([]api.Order{draw}, api.MaxOrders), none), api.MaxOrders, api.ErrLong}, {slices.Repeat([]api.Order{long}, 20), 15, api.ErrLong}, {append(slices.Repeat([]api.Order{long}, 20), none), 20, api.ErrWord}, {append(slices.Repeat([]api.Order{none}, 1), slices.Repeat([]api.Order{draw}, api.MaxOrders)...), api.MaxOrders, api.ErrLong}} {
		if s, at, e := Print(c.l...); s != "" || at != c.at || e != c.e {
			t.Error(i, at, e)
		}
	}
	if s, at, e := Print(slices.Repeat([]api.Order{draw}, api.MaxOrders)...); len(s) != 5*api.MaxOrders || at != 0 || e != api.OK {
		t.Error(at, e)
	}
	nan := api.Order{R: math.NaN(), Z: complex(math.NaN(), 0)}
	if !Same(nan, nan) || Same(api.Order{R: minus}, none) || Same(api.Order{Z: complex(0, minus)}, none) || Same(api.Order{B: a(0, 1)}, none) {
		t.Error("Same")
	}
}
