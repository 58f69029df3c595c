package gauss

import (
	"math"
	"math/rand"
	"testing"

	"filigree/api"
	"filigree/bits"
	"filigree/dyad"
)

var none = api.Gauss{}

func d(n int64, exp int) api.Dyad {
	x, e := dyad.Of(n, exp)
	if e != api.OK {
		panic(e)
	}
	return x
}

func g(x, y float64) api.Gauss {
	z, e := Complex(complex(x, y))
	if e != api.OK {
		panic(e)
	}
	return z
}

func must[T any](x T, e api.Errno) T {
	if e != api.OK {
		panic(e)
	}
	return x
}

var (
	bad    = []api.Gauss{{Re: api.Dyad{N: "\x02"}}, {Im: api.Dyad{N: "\x02"}}, {Re: api.Dyad{Neg: true}}, {Im: api.Dyad{N: "\x01", Exp: api.MaxExp + 1}}}
	badD   = api.Dyad{N: "\x02"}
	far    = api.Gauss{Re: d(1, api.MaxExp)}
	farIm  = api.Gauss{Im: d(1, api.MaxExp)}
	one    = api.Gauss{Re: d(1, 0)}
	ribbon = api.Gauss{Re: d(1, 0), Im: d(1, -api.MaxExp)}
)

func numbers() []api.Gauss {
	l := []api.Gauss{none, g(1, 0), g(0, 1), g(-1, 0), g(0, -1), g(0.5, -2), g(3, 4), g(1, 2), g(-3, 0.125), g(1e100, 1e-100), g(math.Pi, -math.E)}
	r := rand.New(rand.NewSource(9))
	for range 20 {
		l = append(l, g(r.NormFloat64(), float64(r.Intn(20)-10)))
	}
	return l
}

func TestP6_1(t *testing.T) {
	for _, z := range []complex128{0, 0.5 - 2i, complex(math.Copysign(0, -1), 5e-324), complex(math.MaxFloat64, -math.MaxFloat64)} {
		x, e := Complex(z)
		n, f := Near(x)
		if e != api.OK || f != api.OK || n != z || Check(x) != api.OK {
			t.Error(z, x, n)
		}
	}
	for _, x := range []float64{math.NaN(), math.Inf(1), math.Inf(-1)} {
		for _, z := range []complex128{complex(x, 0), complex(0, x)} {
			if x, e := Complex(z); x != none || e != api.ErrFloat {
				t.Error(z, x, e)
			}
		}
	}
	if x, e := Complex(complex(math.Copysign(0, -1), 0)); x != none || e != api.OK {
		t.Error(x, e)
	}
	if x, e := Of(d(1, -1), d(-1, 1)); x != g(0.5, -2) || e != api.OK {
		t.Error(x, e)
	}
	if z, _ := Near(api.Gauss{Re: d(1, 5000), Im: d(-1, -5000)}); real(z) != math.Inf(1) || !bits.Like(imag(z), math.Copysign(0, -1)) {
		t.Error(z)
	}
	for _, b := range bad {
		x, e := Of(b.Re, b.Im)
		z, f := Near(b)
		if Check(b) != api.ErrArg || x != none || e != api.ErrArg || z != 0 || f != api.ErrArg {
			t.Error(b, x, e, z, f)
		}
	}
	if Check(ribbon) != api.OK {
		t.Error("both parts fit")
	}
}

func TestP6_2_P6_8_P6_10(t *testing.T) {
	l := numbers()
	for i, a := range l {
		x, y := a.Re, a.Im
		if Neg(a) != (api.Gauss{Re: dyad.Neg(x), Im: dyad.Neg(y)}) || Conj(a) != (api.Gauss{Re: x, Im: dyad.Neg(y)}) || Turn(a) != (api.Gauss{Re: dyad.Neg(y), Im: x}) {
			t.Error(a)
		}
		if must(Mul(a, g(0, 1))) != Turn(a) || Turn(Turn(a)) != Neg(a) {
			t.Error("Turn", a)
		}
		for k, b := range l {
			u, v := b.Re, b.Im
			sum, product := must(Add(a, b)), must(Mul(a, b))
			if sum != (api.Gauss{Re: must(dyad.Add(x, u)), Im: must(dyad.Add(y, v))}) || must(Sub(a, b)) != must(Add(a, Neg(b))) {
				t.Error(a, b)
			}
			xu, yv, xv, yu := must(dyad.Mul(x, u)), must(dyad.Mul(y, v)), must(dyad.Mul(x, v)), must(dyad.Mul(y, u))
			if product != (api.Gauss{Re: must(dyad.Sub(xu, yv)), Im: must(dyad.Add(xv, yu))}) || product != must(Mul(b, a)) {
				t.Error(a, b)
			}
			dot, cross := must(Dot(a, b)), must(Cross(a, b))
			if dot != must(dyad.Add(xu, yv)) || cross != must(dyad.Sub(xv, yu)) || must(Mul(Conj(a), b)) != (api.Gauss{Re: dot, Im: cross}) {
				t.Error(a, b)
			}
			norms := must(dyad.Mul(must(Norm(a)), must(Norm(b))))
			if must(Norm(product)) != norms || must(dyad.Add(must(dyad.Mul(dot, dot)), must(dyad.Mul(cross, cross)))) != norms || Conj(product) != must(Mul(Conj(a), Conj(b))) {
				t.Error("laws", a, b)
			}
			if must(Cmp(a, b)) != must(dyad.Cmp(must(Norm(a)), must(Norm(b)))) {
				t.Error("Cmp", a, b)
			}
			if must(Scale(a, u)) != must(Mul(a, api.Gauss{Re: u})) {
				t.Error("Scale", a, u)
			}
			c := l[(i+k)%len(l)]
			if must(Mul(c, sum)) != must(Add(must(Mul(c, a)), must(Mul(c, b)))) || must(Sum(a, b, c)) != must(Add(sum, c)) {
				t.Error("laws", a, b, c)
			}
			z, w := must(Near(a)), must(Near(b))
			if must(Near(sum)) != z+w || (z == w) != (a == b) {
				t.Error("Go's own", z, w)
			}
		}
	}
	if must(Sum()) != none {
		t.Error("Sum of none")
	}
}

func TestP6_3(t *testing.T) {
	for _, a := range numbers() {
		want := one
		for n := range 8 {
			if p, e := Pow(a, n); p != want || e != api.OK {
				t.Error(a, n, p, e)
			}
			want = must(Mul(want, a))
		}
	}
	if must(Pow(g(0, 1), 64)) != one || must(Pow(none, 0)) != one || must(Pow(g(0, 1), 3)) != g(0, -1) {
		t.Error("powers")
	}
	for _, n := range []int{-1, 65, math.MinInt, math.MaxInt} {
		if p, e := Pow(g(1, 1), n); p != none || e != api.ErrArg {
			t.Error(n, p, e)
		}
	}
	if p, e := Pow(far, 2); p != none || e != api.ErrLong {
		t.Error(p, e)
	}
}

func TestP6_5_P6_6_P6_9(t *testing.T) {
	for _, c := range []struct {
		a, b, c api.Gauss
		want    int
	}{{none, g(1, 0), g(0, 1), 1}, {none, g(1, 0), g(5, 0), 0}, {none, g(0, 1), g(1, 1), -1}, {g(1, 1), g(1, 1), g(7, -3), 0}, {g(1, 1), g(3, 2), g(2, 5), 1}} {
		if s := must(Side(c.a, c.b, c.c)); s != c.want || must(Side(c.b, c.c, c.a)) != s || must(Side(c.b, c.a, c.c)) != -s {
			t.Error(c, s)
		}
	}
	for _, c := range []struct {
		g, c api.Gauss
		r    int64
		in   bool
	}{{g(3, 4), none, 5, true}, {g(3, 4), none, 4, false}, {g(1, 1), g(1, 1), 0, true}, {g(1, 1), g(1, 2), 0, false}, {g(-2, 3), g(1, -1), 5, true}} {
		if in := must(In(c.g, c.c, d(c.r, 0))); in != c.in {
			t.Error(c, in)
		}
	}
	for _, c := range []struct {
		c             api.Gauss
		r             int64
		d             api.Gauss
		s             int64
		within, apart bool
	}{{g(1, 0), 1, none, 2, true, false}, {g(1, 0), 2, none, 1, false, false}, {none, 1, g(2, 0), 1, false, false}, {none, 1, g(3, 0), 1, false, true}, {g(3, 4), 1, none, 6, true, false}, {g(3, 4), 1, none, 5, false, false}, {g(3, 4), 2, none, 3, false, false}, {g(3, 4), 2, none, 2, false, true}, {g(1, 1), 3, g(1, 1), 3, true, false}, {none, 0, none, 0, true, false}} {
		r, s := d(c.r, 0), d(c.s, 0)
		if must(Within(c.c, r, c.d, s)) != c.within || must(Apart(c.c, r, c.d, s)) != c.apart || must(Apart(c.d, s, c.c, r)) != c.apart {
			t.Error(c)
		}
	}
}

func TestLong(t *testing.T) {
	if x, e := Add(far, far); x != none || e != api.ErrLong {
		t.Error(x, e)
	}
	if x, e := Mul(far, farIm); x != none || e != api.ErrLong {
		t.Error(x, e)
	}
	if x, e := Sub(ribbon, g(0, 1)); x != none || e != api.ErrLong {
		t.Error(x, e)
	}
	if _, e := Norm(ribbon); e != api.ErrLong {
		t.Error(e)
	}
	if c, e := Cmp(ribbon, ribbon); c != 0 || e != api.ErrLong {
		t.Error(c, e)
	}
	if x, e := Sum(far, far, Neg(far)); x != none || e != api.ErrLong {
		t.Error(x, e)
	}
	if s, e := Side(none, one, far); s != 0 || e != api.OK {
		t.Error(s, e)
	}
	if s, e := Side(one, none, ribbon); s != -1 || e != api.OK {
		t.Error(s, e)
	}
	if s, e := Side(none, far, far); s != 0 || e != api.OK {
		t.Error(s, e)
	}
	if in, e := In(far, none, d(1, 0)); in || e != api.ErrLong {
		t.Error(in, e)
	}
	if in, e := In(one, none, d(1, api.MaxExp)); in || e != api.ErrLong {
		t.Error(in, e)
	}
	if in, e := Within(none, d(1, api.MaxExp), none, d(1, 0)); in || e != api.OK {
		t.Error("not worked out", in, e)
	}
	if in, e := Within(none, d(1, 0), none, d(1, api.MaxExp)); in || e != api.ErrLong {
		t.Error(in, e)
	}
	if in, e := Apart(none, d(1, 0), none, d(1, api.MaxExp)); in || e != api.ErrLong {
		t.Error(in, e)
	}
	if x, e := Scale(far, d(2, 0)); x != none || e != api.ErrLong {
		t.Error(x, e)
	}
}

// TestP6_5Long asks Side where each difference and each product fits, and only the last difference does not.
func TestP6_5Long(t *testing.T) {
	wide := api.Gauss{Re: d(1, api.MaxExp), Im: d(1, -api.MaxExp)}
	for _, b := range []api.Gauss{wide, Neg(wide), Conj(wide), Turn(wide)} {
		for _, c := range []api.Gauss{g(1, 1), g(-1, 1), g(1, -1), g(-1, -1)} {
			xv, e1 := dyad.Mul(b.Re, c.Im)
			yu, e2 := dyad.Mul(b.Im, c.Re)
			if e1 != api.OK || e2 != api.OK {
				t.Error("a product that does not fit", b, c)
			}
			if _, e := dyad.Sub(xv, yu); e != api.ErrLong {
				t.Error("a difference that fits", b, c)
			}
			for _, l := range [][2]api.Gauss{{b, c}, {c, b}} {
				if s, e := Side(none, l[0], l[1]); s != 0 || e != api.ErrLong {
					t.Error(l, s, e)
				}
				if x, e := Cross(l[0], l[1]); x != (api.Dyad{}) || e != api.ErrLong {
					t.Error(l, x, e)
				}
			}
		}
	}
	if s, e := Side(none, wide, one); s != -1 || e != api.OK {
		t.Error("all fits", s, e)
	}
}

func TestP6_7_P6_11Texts(t *testing.T) {
	for _, a := range append(numbers(), far, ribbon) {
		s, e := Show(a)
		if b, f := Read(s); b != a || e != api.OK || f != api.OK {
			t.Error(a, s, b)
		}
	}
	if s, _ := Show(g(0, -1)); s != "0,-1p0" {
		t.Error(s)
	}
	for _, s := range []string{"", ",", "1p-1", "0,-0", "0,0,0", "0, 0", "2p0,0", "0,", ",0", "1p0;0", "0,1p1048577"} {
		if x, e := Read(s); x != none || e != api.ErrGauss {
			t.Error(s, x, e)
		}
	}
}

func TestWrongNumbers(t *testing.T) {
	neg := d(-1, 0)
	for _, b := range bad {
		if Neg(b) != none || Conj(b) != none || Turn(b) != none {
			t.Error(b)
		}
		for _, p := range [][2]api.Gauss{{b, far}, {far, b}} {
			x1, e1 := Add(p[0], p[1])
			x2, e2 := Sub(p[0], p[1])
			x3, e3 := Mul(p[0], p[1])
			x4, e4 := Sum(far, far, p[0], p[1])
			y1, e5 := Dot(p[0], p[1])
			y2, e6 := Cross(p[0], p[1])
			_, e7 := Cmp(p[0], p[1])
			_, e8 := Side(p[0], p[1], far)
			_, e9 := In(p[0], p[1], d(1, 0))
			_, e10 := Within(p[0], d(2, 0), p[1], d(1, 0))
			_, e11 := Apart(p[0], d(2, 0), p[1], d(1, 0))
			for i, e := range []api.Errno{e1, e2, e3, e4, e5, e6, e7, e8, e9, e10, e11} {
				if e != api.ErrArg {
					t.Error(i, e)
				}
			}
			if x1 != none || x2 != none || x3 != none || x4 != none || y1 != (api.Dyad{}) || y2 != y1 {
				t.Error("an answer beside an error")
			}
		}
		_, e1 := Pow(b, 1)
		_, e2 := Norm(b)
		s, e3 := Show(b)
		_, e4 := Scale(b, d(1, 0))
		_, e5 := Scale(far, badD)
		if e1 != api.ErrArg || e2 != api.ErrArg || e3 != api.ErrArg || s != "" || e4 != api.ErrArg || e5 != api.ErrArg {
			t.Error(e1, e2, e3, e4, e5)
		}
	}
	for _, r := range []api.Dyad{neg, badD} {
		_, e1 := In(none, none, r)
		_, e2 := Within(none, r, none, d(1, 0))
		_, e3 := Within(none, d(9, 0), none, r)
		_, e4 := Apart(none, r, none, d(1, 0))
		_, e5 := Apart(none, d(9, 0), none, r)
		if e1 != api.ErrArg || e2 != api.ErrArg || e3 != api.ErrArg || e4 != api.ErrArg || e5 != api.ErrArg {
			t.Error(e1, e2, e3, e4, e5)
		}
	}
}
