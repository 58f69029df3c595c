package bits

import (
	"math"
	"math/rand"
	"testing"

	"filigree/api"
)

var minus = math.Copysign(0, -1)

// edges are floats at which something changes, with their neighbours.
func edges() []float64 {
	l := []float64{0, minus, 1, 2, 0.5, 3, 0.75, 5e-324, 1e-323, 0x1p-1022, 0x1.ffffffffffffep-1023, math.MaxFloat64, math.Inf(1), 1 << 53, 1<<53 - 1, 1 << 60, 0.1, 1e-310, math.Pi}
	r := rand.New(rand.NewSource(1))
	for i := 0; i < 400; i++ {
		if x := math.Float64frombits(r.Uint64()); x == x {
			l = append(l, x)
		}
	}
	for _, x := range l {
		l = append(l, -x)
	}
	return append(l, math.NaN(), math.Float64frombits(0xfff0000000000001))
}

func TestP1_1Kinds(t *testing.T) {
	for x, k := range map[float64]api.Kind{0: api.Nought, minus: api.Nought, 5e-324: api.Subnormal, -0x1.ffffffffffffep-1023: api.Subnormal, 0x1p-1022: api.Normal, -1: api.Normal, math.MaxFloat64: api.Normal, math.Inf(1): api.Infinite, math.Inf(-1): api.Infinite} {
		if KindOf(x) != k || Finite(x) != (k < api.Infinite) || Neg(x) != math.Signbit(x) {
			t.Error(x, KindOf(x), Finite(x), Neg(x))
		}
	}
	for _, x := range []float64{math.NaN(), math.Float64frombits(0xfff8000000000000), math.Float64frombits(0x7ff0000000000001)} {
		if KindOf(x) != api.NoNumber || Finite(x) || Neg(x) {
			t.Error("a NaN", KindOf(x), Finite(x), Neg(x))
		}
	}
	if !Neg(minus) || Neg(0) {
		t.Error("noughts' signs")
	}
}

func TestP1_2Parts(t *testing.T) {
	for _, x := range edges() {
		neg, m, e, ok := Parts(x)
		if ok != Finite(x) {
			t.Error(x, ok)
		}
		if !ok {
			if neg || m != 0 || e != 0 {
				t.Error(x, neg, m, e)
			}
			continue
		}
		if neg != math.Signbit(x) || m == 0 && e != 0 || m != 0 && m%2 == 0 || math.Ldexp(float64(m), e) != math.Abs(x) {
			t.Error(x, neg, m, e)
		}
		if y, ok := Make(neg, m, e); !ok || !Like(x, y) {
			t.Error(x, y)
		}
	}
	for _, c := range []struct {
		neg bool
		m   uint64
		e   int
		x   float64
		ok  bool
	}{{true, 0, math.MaxInt, minus, true}, {false, 0, math.MinInt, 0, true}, {false, 1 << 63, math.MaxInt, 0, false}, {true, 1, math.MinInt, 0, false}, {false, 1 << 63, -1137, 5e-324, true}, {false, 1 << 63, -1138, 0, false}, {true, 1 << 63, 960, -0x1p1023, true}, {true, 1 << 63, 961, 0, false}, {false, 1<<53 + 2, 0, 1<<53 + 2, true}, {false, 1<<53 - 1, -1074, 0x1.fffffffffffffp-1022, true}, {false, 1<<64 - 1, 0, 0, false}, {false, 1 << 52, -1074, 0x1p-1022, true}, {false, 3, 1023, 0, false}, {false, 1, 1023, 0x1p1023, true}} {
		if x, ok := Make(c.neg, c.m, c.e); ok != c.ok || !Like(x, c.x) {
			t.Error(c, x, ok)
		}
	}
	for _, c := range []struct {
		x  float64
		k  int
		y  float64
		ok bool
	}{{3, -2, 0.75, true}, {-3, 1, -6, true}, {5e-324, -1, 0, false}, {minus, math.MinInt, minus, true}, {0, math.MaxInt, 0, true}, {1, 1024, 0, false}, {1, 1023, 0x1p1023, true}, {5e-324, 2097, 0x1p1023, true}, {5e-324, 2098, 0, false}, {math.Inf(1), 0, 0, false}, {math.NaN(), 0, 0, false}, {1, math.MinInt, 0, false}, {0x1p1023, math.MaxInt, 0, false}, {0x1p1023, -2097, 5e-324, true}, {3, -1075, 0, false}} {
		if y, ok := Scale(c.x, c.k); ok != c.ok || !Like(y, c.y) {
			t.Error(c, y, ok)
		}
	}
}

func TestP1_3Next(t *testing.T) {
	for _, x := range edges() {
		up, down := math.Nextafter(x, math.Inf(1)), math.Nextafter(x, math.Inf(-1))
		if x == -5e-324 {
			up = minus
		}
		if !Like(Up(x), up) || !Like(Down(x), down) {
			t.Error(x, Up(x), Down(x))
		}
	}
	if !Like(Down(5e-324), 0) || !Like(Up(-5e-324), minus) || Up(minus) != 5e-324 || Down(0) != -5e-324 {
		t.Error("noughts")
	}
	if Up(math.Inf(-1)) != -math.MaxFloat64 || Down(math.Inf(1)) != math.MaxFloat64 || Up(math.Inf(1)) != math.Inf(1) || Down(math.Inf(-1)) != math.Inf(-1) {
		t.Error("infinities")
	}
}

func TestP1_4_P1_9Order(t *testing.T) {
	l := edges()
	for i := 0; i < len(l); i += 7 {
		for _, b := range l {
			a := l[i]
			o := Order(a, b)
			if o != -Order(b, a) || (o == 0) != Like(a, b) || a < b && o != -1 || a > b && o != 1 {
				t.Error(a, b, o)
			}
			if p, q := Place(a), Place(b); (p < q) != (o < 0) || (p == q) != (o == 0) {
				t.Error(a, b, p, q)
			}
		}
	}
	if Order(minus, 0) != -1 || Order(math.NaN(), math.Inf(1)) != 1 || Like(minus, 0) || !Like(math.NaN(), math.Float64frombits(0xfff0000000000001)) || Like(1, math.NaN()) {
		t.Error("noughts, NaNs")
	}
}

func TestP1_5Place(t *testing.T) {
	for _, x := range edges() {
		if y, ok := At(Place(x)); !ok || !Like(x, y) {
			t.Error(x, y, ok)
		}
		if x == x && x < math.Inf(1) && x != 0 && Place(Up(x)) != Place(x)+1 {
			t.Error(x, Place(x), Place(Up(x)))
		}
	}
	const minusPlace = 9218868437227405312
	if Place(math.Inf(-1)) != 0 || Place(minus) != minusPlace || Place(0) != minusPlace+1 || Place(math.Inf(1)) != 2*minusPlace+1 || Place(math.NaN()) != 2*minusPlace+2 {
		t.Error("places")
	}
	for _, p := range []uint64{2*minusPlace + 3, 1<<64 - 1} {
		if x, ok := At(p); ok || !Like(x, 0) {
			t.Error(p, x, ok)
		}
	}
}

func TestP1_6_P1_7Texts(t *testing.T) {
	for _, x := range edges() {
		s := Text(x)
		if y, e := Read(s); e != api.OK || !Like(x, y) || Text(y) != s {
			t.Error(x, s, y, e)
		}
	}
	for x, s := range map[float64]string{0.75: "3p-2", -6: "-3p1", 1 << 60: "1p60", math.Inf(-1): "-inf", minus: "-0", -5e-324: "-1p-1074"} {
		if x != 0 && Text(x) != s {
			t.Error(x, Text(x))
		}
	}
	for _, s := range []string{"", "-", "p", "6p0", "3p+1", "+3p1", "03p1", "1p1024", "-nan", "NaN", "+inf", "0p0", "1p", "p1", "1p-0", "1p01", "1p1p1", " 1p1", "1p1 ", "--1p1", "-00", "3", "1p-1075", "99999999999999999999p0", "1p99999999999999999999", "1_1p0", "0x1p0", "infp0"} {
		if x, e := Read(s); e != api.ErrFloatText || !Like(x, 0) {
			t.Error(s, x, e)
		}
	}
}

func TestP1_8NothingBetween(t *testing.T) {
	for _, x := range edges() {
		if !Finite(x) || x == 0 || math.Abs(x) == math.MaxFloat64 {
			continue
		}
		if Down(Up(x)) != x || Up(Down(x)) != x || !(Up(x) > x) || !(Down(x) < x) {
			t.Error(x)
		}
	}
}
