package ball

import (
	"math"
	"math/rand"
	"testing"

	"filigree/api"
	"filigree/bits"
	"filigree/cplx"
	"filigree/dyad"
	"filigree/gauss"
)

var (
	inf, nan = math.Inf(1), math.NaN()
	minus    = math.Copysign(0, -1)
	up       = bits.Up
)

func b(c complex128, r float64) api.Ball { return api.Ball{C: c, R: r} }

func same(x, y api.Ball) bool { return cplx.Same(x.C, y.C) && bits.Like(x.R, y.R) }

func wrong() []api.Ball {
	return []api.Ball{b(0, -1), b(0, minus), b(0, nan), b(complex(nan, 0), 1), b(complex(0, inf), 1), b(1, inf), b(complex(minus, 0), inf), b(complex(0, minus), inf), b(0, -inf)}
}

func balls() []api.Ball {
	l := []api.Ball{b(0, 0), b(1, 0), b(0, 1), b(complex(minus, minus), 0.5), b(3+4i, 1), b(1+2i, 0.5), b(1e200, 0), b(1e-200, 5e-324), b(5e-324, 0), b(complex(math.MaxFloat64, 0), 0), b(0, math.MaxFloat64), b(-2i, 0.25), Whole()}
	r := rand.New(rand.NewSource(10))
	for range 30 {
		l = append(l, b(complex(r.NormFloat64(), r.NormFloat64()), math.Abs(r.NormFloat64())/8))
	}
	return l
}

func g(z complex128) api.Gauss {
	x, e := gauss.Complex(z)
	if e != api.OK {
		panic(e)
	}
	return x
}

func TestP7_1(t *testing.T) {
	for _, a := range balls() {
		if !May(a) || IsWhole(a) != math.IsInf(a.R, 1) {
			t.Error(a)
		}
		if n, e := New(a.C, a.R); !IsWhole(a) && (!same(n, a) || e != api.OK) {
			t.Error(a, n, e)
		}
	}
	for _, a := range wrong() {
		if May(a) || !IsWhole(a) {
			t.Error(a)
		}
		e := api.ErrFloat
		if a.C == 0 && bits.Finite(a.R) {
			e = api.ErrArg
		}
		if n, f := New(a.C, a.R); n != (api.Ball{}) || f != e {
			t.Error(a, n, f)
		}
	}
	if n, e := New(0, inf); n != (api.Ball{}) || e != api.ErrFloat {
		t.Error(n, e)
	}
	if n, e := New(complex(nan, 0), -1); n != (api.Ball{}) || e != api.ErrFloat {
		t.Error(n, e)
	}
	if !same(Whole(), b(0, inf)) || !same(Point(1+2i), b(1+2i, 0)) || !same(Point(complex(minus, 1)), b(complex(minus, 1), 0)) || !same(Point(complex(inf, 0)), Whole()) || !same(Point(complex(0, nan)), Whole()) {
		t.Error("Whole, Point")
	}
}

// The formulas once more, as the chapter writes them.

func sum(x, y float64) float64 {
	if x == 0 {
		return y
	} else if y == 0 {
		return x
	}
	return up(x + y)
}

func prod(x, y float64) float64 {
	if x == 0 || y == 0 {
		return 0
	}
	return up(x * y)
}

func loss(x, y float64) float64 {
	if x == 0 || y == 0 || x+y == 0 {
		return 0
	}
	return up(math.Abs(x+y) * math.Ldexp(1, -53))
}

func spoil(z, w complex128) float64 {
	if z == 0 || w == 0 {
		return 0
	}
	s := sum(sum(math.Abs(real(z)*real(w)), math.Abs(imag(z)*imag(w))), sum(math.Abs(real(z)*imag(w)), math.Abs(imag(z)*real(w))))
	return sum(up(s*math.Ldexp(1, -51)), math.Ldexp(1, -1070))
}

func tell(c complex128, r float64) api.Ball {
	if cplx.Kind(c) != api.CplxFinite || !bits.Finite(r) {
		return Whole()
	}
	return b(c, r)
}

func product(x, y api.Ball) api.Ball {
	if IsWhole(x) || IsWhole(y) {
		return Whole()
	}
	r := sum(sum(prod(cplx.Hi(x.C), y.R), prod(cplx.Hi(y.C), x.R)), sum(prod(x.R, y.R), spoil(x.C, y.C)))
	return tell(cplx.Mul(x.C, y.C), r)
}

func quotient(x, y api.Ball) api.Ball {
	if IsWhole(x) || IsWhole(y) {
		return Whole()
	}
	d := cplx.Lo(y.C)
	if y.R != 0 {
		d = max(0, bits.Down(d-y.R))
	}
	w := cplx.Quo(1, y.C)
	if d == 0 || cplx.Kind(w) != api.CplxFinite {
		return Whole()
	}
	p := cplx.Mul(w, y.C)
	q := complex(1-real(p), 0-imag(p))
	e := sum(sum(cplx.Hi(q), loss(1, -real(p))), spoil(w, y.C))
	n := sum(e, prod(cplx.Hi(w), y.R))
	r := 0.0
	if n != 0 {
		r = up(n / d)
	}
	return product(x, tell(w, r))
}

func TestP7_3_P7_4_P7_5_P7_6_P7_14(t *testing.T) {
	l := append(balls(), wrong()...)
	for _, x := range l {
		if IsWhole(x) {
			if !same(Neg(x), Whole()) || !same(Conj(x), Whole()) {
				t.Error("the whole sphere", x)
			}
		} else if !same(Neg(x), b(cplx.Neg(x.C), x.R)) || !same(Conj(x), b(cplx.Conj(x.C), x.R)) {
			t.Error(x)
		}
		for _, y := range l {
			add, sub := Whole(), Whole()
			if !IsWhole(x) && !IsWhole(y) {
				lost := sum(loss(real(x.C), real(y.C)), loss(imag(x.C), imag(y.C)))
				add = tell(x.C+y.C, sum(sum(x.R, y.R), lost))
				lost = sum(loss(real(x.C), -real(y.C)), loss(imag(x.C), -imag(y.C)))
				sub = tell(x.C-y.C, sum(sum(x.R, y.R), lost))
			}
			if !same(Add(x, y), add) || !same(Sub(x, y), sub) || !same(Mul(x, y), product(x, y)) || !same(Quo(x, y), quotient(x, y)) {
				t.Error(x, y)
			}
			if !same(Add(x, y), Add(y, x)) || !same(Mul(x, y), Mul(y, x)) {
				t.Error("the other way round", x, y)
			}
		}
	}
	if !same(Add(b(1, 0), b(3, 0)), b(4, up(4*0x1p-53))) || !same(Mul(b(2, 0), b(3, 0)), b(6, up(up(6*0x1p-51)+0x1p-1070))) || !same(Mul(b(2, 0), b(0, 0)), b(0, 0)) || !same(Sub(b(1, 0), b(1, 0)), b(0, 0)) || !same(Add(b(1, 0.5), b(2i, 0.25)), b(1+2i, up(0.75))) {
		t.Error("examples")
	}
	for _, y := range []api.Ball{b(1, 1), b(0, 0), b(1, 2), b(5e-324, 0)} {
		if !same(Quo(b(1, 0), y), Whole()) {
			t.Error("Quo", y)
		}
	}
}

func TestP7_7_P7_8(t *testing.T) {
	for _, x := range append(balls(), wrong()...) {
		want := b(1, 0)
		for n := range api.MaxDegree + 1 {
			if p, e := Pow(x, n); !same(p, want) || e != api.OK {
				t.Error(x, n, p, e)
			}
			want = product(x, want)
		}
		for _, n := range []int{-1, api.MaxDegree + 1, math.MinInt} {
			if p, e := Pow(x, n); p != (api.Ball{}) || e != api.ErrArg {
				t.Error(n, p, e)
			}
		}
	}
	x, y, z := b(1e16, 0.5), b(1, 0.25), b(-1e16, 0)
	if !same(Sum(), b(0, 0)) || !same(Sum(x), x) || !same(Sum(x, y, z), Add(Add(x, y), z)) || !same(Sum(b(0, -1)), Whole()) || !same(Sum(x, b(0, nan)), Whole()) {
		t.Error("Sum")
	}
	if !same(Cover(), b(0, 0)) || !same(Cover(x), x) || !same(Cover(x, Whole()), Whole()) || !same(Cover(b(0, -1)), Whole()) || !same(Cover(b(math.MaxFloat64, 0), b(-math.MaxFloat64, 0)), Whole()) {
		t.Error("Cover")
	}
	if c := Cover(b(0, 1), b(3, 0)); !same(c, b(0, sum(3, loss(0, 3)))) {
		t.Error(c)
	}
	l := balls()
	for i := range l {
		some := []api.Ball{l[i], l[(i*7+1)%len(l)], l[(i*3+2)%len(l)]}
		c := Cover(some...)
		want := 0.0
		for _, a := range some {
			want = max(want, sum(Hi(Sub(Point(a.C), Point(l[i].C))), a.R))
			if !Inside(a, c) {
				t.Error(a, c)
			}
		}
		if !IsWhole(c) && !same(c, b(l[i].C, want)) {
			t.Error(c, want)
		}
	}
}

func TestP7_9_P7_11(t *testing.T) {
	for _, a := range balls() {
		hi, lo := Hi(a), Lo(a)
		if IsWhole(a) {
			if hi != inf || !bits.Like(lo, 0) {
				t.Error(a, hi, lo)
			}
			continue
		}
		want := cplx.Lo(a.C)
		if a.R != 0 {
			want = max(0, bits.Down(want-a.R))
		}
		if hi != sum(cplx.Hi(a.C), a.R) || !bits.Like(lo, want) {
			t.Error(a, hi, lo)
		}
	}
	if Hi(b(0, nan)) != inf || Lo(b(5, nan)) != 0 || Hi(b(3+4i, 1)) < 6 || Lo(b(3+4i, 1)) > 4 || Lo(b(1, 2)) != 0 {
		t.Error("examples")
	}
	for _, c := range []struct {
		move, slope api.Ball
		r, q        float64
		ok          bool
	}{{b(0, 0.25), b(0.5, 0), 1, 0.5, true}, {b(0, 0.5), b(0.5, 0), 1, 0, false}, {b(0, 0), b(1, 0), 1, 0, false}, {b(0, 0), b(0, 0), 1, 0, true}, {b(0, 0), b(0.5, 0), 0, 0, false}, {b(0, 0), b(0.5, 0), -1, 0, false}, {b(0, 0), b(0, 0), nan, 0, false}, {b(0, 0), b(0, 0), inf, 0, false}, {Whole(), b(0, 0), 1, 0, false}, {b(0, 0), Whole(), 1, 0, false}, {b(0, 1), b(0, 0), 1, 0, true}, {b(0, up(1)), b(0, 0), 1, 0, false}, {b(0, -1), b(0, 0), 1, 0, false}, {b(0, 0.25), b(0, 0.5), 1, 0.5, true}} {
		if q, ok := Contracts(c.move, c.slope, c.r); !bits.Like(q, c.q) || ok != c.ok {
			t.Error(c, q, ok)
		}
	}
}

func TestP7_10_P7_13(t *testing.T) {
	half := g(0.75 + 0.75i)
	for _, c := range []struct{ got, want bool }{
		{Holds(b(0, 1), g(1)), true}, {Holds(b(0, 1), half), false}, {Holds(Whole(), half), true}, {Holds(b(0, nan), half), true}, {Holds(Whole(), api.Gauss{Re: api.Dyad{N: "\x02"}}), false}, {Holds(b(3+4i, 5), g(0)), true}, {Holds(b(3+4i, bits.Down(5)), g(0)), false},
		{Has(Whole(), complex(nan, 0)), true}, {Has(b(0, 1), complex(nan, 0)), false}, {Has(b(0, math.MaxFloat64), complex(inf, 0)), false}, {Has(b(0, -1), complex(nan, 0)), true}, {Has(b(0, 1), 1i), true}, {Has(b(0, 1), complex(0, up(1))), false}, {Has(b(1e-320, 0), 1e-320), true}, {Has(b(3+4i, 5), 0), true}, {Has(b(3+4i, bits.Down(5)), 0), false},
		{Inside(b(1, 1), b(0, 2)), true}, {Inside(b(1, 1), b(0, 1.5)), false}, {Inside(b(1, 1), b(0, bits.Down(2))), false}, {Inside(b(0, 1), Whole()), true}, {Inside(Whole(), b(0, 1)), false}, {Inside(Whole(), Whole()), true}, {Inside(b(0, -1), b(0, 5)), false}, {Inside(b(0, 5), b(0, -1)), true}, {Inside(b(3+4i, 1), b(0, 6)), true}, {Inside(b(3+4i, 1), b(0, bits.Down(6))), false}, {Inside(b(0, 2), b(0, 1)), false}, {Inside(b(complex(minus, 0), 0), b(0, 0)), true}, {Inside(b(math.MaxFloat64, 0), b(-math.MaxFloat64, math.MaxFloat64)), false},
		{Apart(b(0, 1), b(2, 1)), false}, {Apart(b(0, 1), b(2.5, 1)), true}, {Apart(b(0, 1), b(complex(up(2), 0), 1)), true}, {Apart(b(0, 1), Whole()), false}, {Apart(b(0, nan), b(1, 0)), false}, {Apart(b(0, 2.5), b(3+4i, 2.5)), false}, {Apart(b(0, 2.5), b(3+4i, bits.Down(2.5))), true}, {Apart(b(1, 0), b(1, 0)), false}, {Apart(b(complex(1, 5e-324), 0), b(1, 0)), true}, {Apart(b(math.MaxFloat64, 1e308), b(-math.MaxFloat64, 1e308)), true}, {Apart(b(math.MaxFloat64, math.MaxFloat64), b(-math.MaxFloat64, math.MaxFloat64)), false}} {
		if c.got != c.want {
			t.Error(c)
		}
	}
	for _, x := range balls() {
		if !Inside(x, x) || Apart(x, x) {
			t.Error(x)
		}
		for _, y := range balls() {
			if IsWhole(x) || IsWhole(y) {
				continue
			}
			c, r := exact(x)
			d, s := exact(y)
			in, _ := gauss.Within(c, r, d, s)
			off, _ := gauss.Apart(c, r, d, s)
			if Inside(x, y) != in || Apart(x, y) != off || in && off {
				t.Error(x, y, in, off)
			}
		}
	}
}

func TestFarExponents(t *testing.T) {
	least := api.Dyad{N: "\x01", Exp: -api.MaxExp}
	most := api.Dyad{N: "\x01", Exp: api.MaxExp}
	one := api.Dyad{N: "\x01"}
	under := api.Dyad{Neg: true, N: "\x01", Exp: -api.MaxExp}
	for _, c := range []struct {
		a  api.Ball
		g  api.Gauss
		in bool
	}{{b(1, 1), api.Gauss{Re: least}, true}, {b(1, 1), api.Gauss{Re: under}, false}, {b(1, 1), api.Gauss{Im: least}, false}, {b(1, 1), api.Gauss{Re: most}, false}, {b(0, math.MaxFloat64), api.Gauss{Im: most}, false}, {b(0, 1), api.Gauss{Re: one, Im: least}, false}, {b(0, 0), api.Gauss{Re: least}, false}, {b(0, 5e-324), api.Gauss{Re: least, Im: under}, true}} {
		if in := Holds(c.a, c.g); in != c.in {
			t.Error(c.a, c.g.Re.Exp, c.g.Im.Exp, in)
		}
	}
	for _, c := range []struct {
		g    api.Gauss
		r    api.Dyad
		want api.Ball
	}{{api.Gauss{Re: least}, one, b(0, up(1))}, {api.Gauss{Re: least, Im: under}, api.Dyad{}, b(complex(0, minus), 5e-324)}, {api.Gauss{Re: one}, least, b(1, 5e-324)}, {api.Gauss{Re: least}, api.Dyad{N: "\x01", Exp: 1023}, b(0, up(0x1p1023))}, {api.Gauss{Re: least}, most, Whole()}, {api.Gauss{Re: most}, one, Whole()}, {api.Gauss{}, api.Dyad{}, b(0, 0)}, {api.Gauss{Re: one}, api.Dyad{N: "\x03", Exp: -1}, b(1, 1.5)}} {
		if a, e := Around(c.g, c.r); !same(a, c.want) || e != api.OK {
			t.Error(c.g.Re.Exp, a, e)
		}
	}
	sixth, _ := dyad.Make(false, "\x20\x00\x00\x00\x00\x00\x01", 0) // 2^53 + 1
	if a, e := Around(api.Gauss{Re: sixth, Im: sixth}, one); !same(a, b(complex(1<<53, 1<<53), 3)) || e != api.OK {
		t.Error(a, e)
	}
	for _, r := range []api.Dyad{under, {N: "\x02"}} {
		if a, e := Around(api.Gauss{}, r); a != (api.Ball{}) || e != api.ErrArg {
			t.Error(a, e)
		}
	}
	if a, e := Around(api.Gauss{Im: api.Dyad{N: "\x02"}}, one); a != (api.Ball{}) || e != api.ErrArg {
		t.Error(a, e)
	}
}

// within picks exact numbers that a ball holds.
func within(a api.Ball, r *rand.Rand) api.Gauss {
	for {
		angle, far := r.Float64()*2*math.Pi, a.R*float64(r.Intn(5))/4
		z := a.C + complex(far*math.Cos(angle), far*math.Sin(angle))
		if Has(a, z) {
			return g(z)
		}
	}
}

func TestP7_12Holds(t *testing.T) {
	r := rand.New(rand.NewSource(11))
	ok := func(what string, a api.Ball, x api.Gauss, e api.Errno) {
		if e == api.OK && !Holds(a, x) {
			t.Error(what, a)
		}
	}
	l := balls()[:12]
	for range 60 {
		l = append(l, b(complex(r.NormFloat64(), r.NormFloat64()), math.Abs(r.NormFloat64())*0x1p-20))
	}
	for i, x := range l {
		y := l[(i*5+3)%len(l)]
		for range 6 {
			p, q := within(x, r), within(y, r)
			s, e := gauss.Add(p, q)
			ok("Add", Add(x, y), s, e)
			s, e = gauss.Sub(p, q)
			ok("Sub", Sub(x, y), s, e)
			s, e = gauss.Mul(p, q)
			ok("Mul", Mul(x, y), s, e)
			ok("Neg", Neg(x), gauss.Neg(p), api.OK)
			ok("Conj", Conj(x), gauss.Conj(p), api.OK)
			n := r.Intn(6)
			w, _ := Pow(x, n)
			s, e = gauss.Pow(p, n)
			ok("Pow", w, s, e)
			s, e = gauss.Mul(p, q)
			if e == api.OK && q != (api.Gauss{}) {
				c, _ := gauss.Near(s)
				if a, f := Around(s, api.Dyad{}); f == api.OK && cplx.Kind(c) == api.CplxFinite {
					ok("Quo", Quo(a, y), p, api.OK)
				}
			}
			norm, _ := gauss.Norm(p)
			for _, bound := range []struct {
				x    float64
				sign int
			}{{Hi(x), 1}, {Lo(x), -1}} {
				if d, e := dyad.Float(bound.x); e == api.OK {
					d, _ = dyad.Mul(d, d)
					if c, _ := dyad.Cmp(d, norm); c == -bound.sign {
						t.Error("Hi, Lo", x)
					}
				}
			}
		}
	}
}
