package cplx

import (
	"math"
	"math/big"
	"math/cmplx"
	"math/rand"
	"testing"

	"filigree/api"
	"filigree/bits"
)

var (
	nan, inf = math.NaN(), math.Inf(1)
	minus    = math.Copysign(0, -1)
)

func floats() []float64 {
	return []float64{0, minus, 1, -1, 2, 0.5, -3, 0.1, math.Pi, 5e-324, -5e-324, 1e-310, 0x1p-1022, 1e150, 1e200, -1e300, math.MaxFloat64, -math.MaxFloat64, inf, -inf, nan}
}

func numbers() []complex128 {
	var l []complex128
	for _, x := range floats() {
		for _, y := range floats() {
			l = append(l, complex(x, y))
		}
	}
	r := rand.New(rand.NewSource(8))
	for range 200 {
		l = append(l, complex(r.NormFloat64(), r.NormFloat64()), complex(math.Float64frombits(r.Uint64()), math.Float64frombits(r.Uint64())))
	}
	return l
}

func TestP5_1Kinds(t *testing.T) {
	for _, z := range numbers() {
		want := api.CplxFinite
		if math.IsNaN(real(z)) || math.IsNaN(imag(z)) {
			want = api.CplxNaN
		}
		if cmplx.IsInf(z) {
			want = api.CplxInfinite
		}
		if Kind(z) != want || !Same(z, z) || Equal(z, z) != (z == z) || Order(z, z) != 0 {
			t.Error(z, Kind(z))
		}
	}
	a, b := complex(0, 0), complex(minus, 0)
	if Same(a, b) || !Equal(a, b) || Same(a, complex(0, minus)) || Equal(complex(nan, 0), complex(nan, 0)) || !Same(complex(nan, 0), complex(math.Float64frombits(0xfff8000000000001), 0)) {
		t.Error("noughts and NaNs")
	}
}

func TestP5_1_P5_12Order(t *testing.T) {
	l := numbers()
	for i := 0; i < len(l); i += 3 {
		for _, b := range l {
			a := l[i]
			want := bits.Order(real(a), real(b))
			if want == 0 {
				want = bits.Order(imag(a), imag(b))
			}
			if Order(a, b) != want || Order(b, a) != -want || (want == 0) != Same(a, b) {
				t.Error(a, b, Order(a, b))
			}
		}
	}
	if Order(complex(nan, 0), complex(inf, 0)) != 1 || Order(complex(minus, 0), 0) != -1 || Order(complex(1, 5), complex(2, -5)) != -1 || Order(complex(1, 5), complex(1, 6)) != -1 {
		t.Error("examples")
	}
}

func TestP5_2_P5_3(t *testing.T) {
	for _, z := range numbers() {
		re, im := real(z), imag(z)
		p := Cut(z)
		if !Same(Make(p), z) || math.IsNaN(re) && p.Re != 0x7ff8000000000000 || math.IsNaN(im) && p.Im != 0x7ff8000000000000 || !math.IsNaN(re) && p.Re != math.Float64bits(re) {
			t.Error(z, p)
		}
		sr, si := Signs(z)
		if sr != (math.Signbit(re) && re == re) || si != (math.Signbit(im) && im == im) {
			t.Error(z, sr, si)
		}
		if !Same(Neg(z), complex(math.Copysign(re, -math.Copysign(1, re)), math.Copysign(im, -math.Copysign(1, im)))) || !Same(Conj(z), complex(re, real(Neg(complex(im, 0))))) || !Same(Turn(z), complex(-im, re)) {
			t.Error(z, Neg(z), Conj(z), Turn(z))
		}
		if !Same(Neg(Neg(z)), z) || !Same(Conj(Conj(z)), z) || !Same(Turn(Turn(Turn(Turn(z)))), z) {
			t.Error(z)
		}
	}
	if x, y := Signs(complex(math.Copysign(nan, -1), minus)); x || !y {
		t.Error("a NaN has a sign")
	}
	if p := Cut(complex(math.Float64frombits(0xfff8000000000001), 1)); p.Re != 0x7ff8000000000000 || p.Im != math.Float64bits(1) {
		t.Error(p)
	}
}

func TestP5_4_P5_5_P5_6(t *testing.T) {
	l := numbers()
	for i := 0; i < len(l); i += 5 {
		for k := 0; k < len(l); k += 2 {
			z, w := l[i], l[k]
			a, b, c, d := real(z), imag(z), real(w), imag(w)
			ac, bd, ad, bc := a*c, b*d, a*d, b*c
			if !Same(Add(z, w), complex(a+c, b+d)) || !Same(Sub(z, w), complex(a-c, b-d)) || !Same(Scale(z, c), complex(ac, bc)) || !Same(Mul(z, w), complex(ac-bd, ad+bc)) {
				t.Error(z, w)
			}
			if !Same(Mul(z, w), Mul(w, z)) {
				t.Error("order of factors", z, w)
			}
			conj, both := Conj(Mul(z, w)), Mul(Conj(z), Conj(w))
			for _, p := range [][2]float64{{real(conj), real(both)}, {imag(conj), imag(both)}} {
				if p[0] != p[1] && !(p[0] != p[0] && p[1] != p[1]) {
					t.Error("Conj of a product", z, w)
				}
			}
			var want complex128
			if math.Abs(c) >= math.Abs(d) {
				t := d / c
				dt, bt, at := d*t, b*t, a*t
				n := c + dt
				want = complex((a+bt)/n, (b-at)/n)
			} else {
				t := c / d
				ct, bt, at := c*t, b*t, a*t
				n := d + ct
				want = complex((at+b)/n, (bt-a)/n)
			}
			if !Same(Quo(z, w), want) {
				t.Error("Quo", z, w, Quo(z, w), want)
			}
			if z == z && w == w && (!Same(Add(z, w), z+w) || !Same(Sub(z, w), z-w) || !Same(Neg(z), -z)) {
				t.Error("Go's own", z, w)
			}
		}
		x, y := real(l[i]), imag(l[i])
		less, more, twice := x-y, x+y, 2*x
		if !Same(Square(l[i]), complex(less*more, twice*y)) {
			t.Error("Square", l[i])
		}
	}
	if Mul(1+2i, 3+4i) != -5+10i || Square(1+2i) != -3+4i || Quo(1+2i, 3+4i) != 0.44+0.08i || !Same(Quo(1, 0), complex(nan, nan)) || !Same(Mul(complex(inf, 0), 1i), complex(nan, inf)) {
		t.Error("examples")
	}
	// with one rounding for both operations the small part would not be 0
	if x := 1 + 0x1p-30; real(Mul(complex(x, x), complex(x, x))) != 0 {
		t.Error("fused")
	}
}

func TestLists(t *testing.T) {
	if !Same(Sum(), 0) || !Same(Sum(complex(minus, minus)), 0) || Sum(1, 2i, -3) != -2+2i {
		t.Error(Sum(), Sum(complex(minus, minus)))
	}
	if Sum(1e300, 1e308, -1e308) != 0 && real(Sum(1e16, 1, 1)) != 1e16 {
		t.Error("order of a sum")
	}
	if z, e := Dot([]complex128{1, 2i}, []complex128{3, 4}); z != 3+8i || e != api.OK {
		t.Error(z, e)
	}
	if z, e := Dot(nil, []complex128{}); !Same(z, 0) || e != api.OK {
		t.Error(z, e)
	}
	if z, e := Dot([]complex128{1}, nil); !Same(z, 0) || e != api.ErrArg {
		t.Error(z, e)
	}
}

func magnitude2(z complex128) *big.Float {
	x := new(big.Float).SetPrec(5000).SetFloat64(real(z))
	y := new(big.Float).SetPrec(5000).SetFloat64(imag(z))
	return x.Add(x.Mul(x, x), y.Mul(y, y))
}

func TestP5_7_P5_9Bounds(t *testing.T) {
	square := func(x float64) *big.Float { return magnitude2(complex(x, 0)) }
	for _, z := range numbers() {
		hi, lo := Hi(z), Lo(z)
		if Kind(z) != api.CplxFinite {
			if hi != inf || !bits.Like(lo, 0) {
				t.Error(z, hi, lo)
			}
			continue
		}
		m := magnitude2(z)
		if hi < inf && square(hi).Cmp(m) < 0 || square(lo).Cmp(m) > 0 || math.Signbit(lo) {
			t.Error(z, hi, lo)
		}
		p := max(math.Abs(real(z)), math.Abs(imag(z)))
		if p >= 0x1p-1000 && p <= 0x1p1000 && hi > lo*(1+0x1p-48) {
			t.Error(z, hi, lo)
		}
	}
	up, down := bits.Up, bits.Down
	x := 1.0 / 3
	if Hi(complex(3, 1)) != up(3*up(math.Sqrt(up(1+up(up(x)*up(x)))))) || Lo(complex(-1, 3)) != down(3*down(math.Sqrt(down(1+down(down(x)*down(x)))))) {
		t.Error("the formula")
	}
	if Hi(3) != 3 || Lo(-3i) != 3 || !bits.Like(Hi(complex(minus, minus)), 0) || Lo(complex(5e-324, 5e-324)) != 0 {
		t.Error("examples", Lo(complex(5e-324, 5e-324)))
	}
}

func TestP5_8Narrow(t *testing.T) {
	for _, z := range numbers() {
		n := Narrow(z)
		if !Same64(n, complex(float32(real(z)), float32(imag(z)))) || !Same64(Narrow(Widen(n)), n) || !Same(Widen(n), complex(float64(real(n)), float64(imag(n)))) {
			t.Error(z, n)
		}
		for _, w := range []complex128{1 - 1i, 3, complex(0.1, inf), complex(0, nan)} {
			if m := Narrow(w); !Same64(Mul64(n, m), Narrow(Mul(Widen(n), Widen(m)))) {
				t.Error(z, w)
			}
		}
	}
	zero := complex(float32(0), float32(0))
	if Same64(zero, complex(float32(minus), 0)) || Same64(zero, complex(0, float32(minus))) || !Same64(Narrow(complex(nan, 0)), Narrow(complex(-nan, 0))) || Mul64(1+1i, 1-1i) != 2 || real(Narrow(1e300)) != float32(inf) {
		t.Error("examples")
	}
}
