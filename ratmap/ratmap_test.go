package ratmap

import (
	"math"
	"math/rand"
	"slices"
	"testing"

	"filigree/api"
	"filigree/ball"
	"filigree/cplx"
	"filigree/gauss"
	"filigree/poly"
)

var (
	inf, nan = math.Inf(1), math.NaN()
	minus    = math.Copysign(0, -1)
	endless  = api.Point{Inf: true}
	s        = api.Map{P: api.Poly{-1, 0, 1}, Q: api.Poly{1}}
	t2       = api.Map{P: api.Poly{1}, Q: api.Poly{0, 0, 1}}
	same     = api.Map{P: api.Poly{0, 1}, Q: api.Poly{0, 1}}
)

func wrong() []api.Map {
	return []api.Map{{}, {P: api.Poly{1}}, {Q: api.Poly{1}}, {P: api.Poly{1, 0}, Q: api.Poly{1}}, {P: api.Poly{1}, Q: api.Poly{complex(nan, 0)}}, {P: slices.Repeat(api.Poly{1}, 18), Q: api.Poly{1}}}
}

func all() []api.Map {
	l := []api.Map{s, t2, same, {P: api.Poly{0, 2}, Q: api.Poly{0, 1}}, {P: api.Poly{1, 1}, Q: api.Poly{-1, 1}}, {P: api.Poly{0, 0, 1}, Q: api.Poly{2}}, {P: api.Poly{3}, Q: api.Poly{1}}, {P: api.Poly{complex(0, 1), 0, 0.5}, Q: api.Poly{1, 2, 3, 4}}, {P: slices.Repeat(api.Poly{1}, 17), Q: api.Poly{1}}, {P: api.Poly{0, 0, 1}, Q: api.Poly{complex(1, minus)}}}
	r := rand.New(rand.NewSource(15))
	for range 8 {
		some := func() api.Poly {
			var p api.Poly
			for range 1 + r.Intn(4) {
				p = append(p, complex(r.NormFloat64(), r.NormFloat64()))
			}
			return p
		}
		l = append(l, api.Map{P: some(), Q: some()})
	}
	return l
}

func z(x complex128) api.Point { return api.Point{Z: x} }

func b(c complex128, r float64) api.Ball { return api.Ball{C: c, R: r} }

func g(x complex128) api.Gauss {
	e, _ := gauss.Complex(x)
	return e
}

func TestP10_1(t *testing.T) {
	for _, m := range all() {
		if Check(m) != api.OK || Degree(m) != max(len(m.P), len(m.Q))-1 || IsPoly(m) != (len(m.Q) == 1) {
			t.Error(m)
		}
	}
	for _, m := range wrong() {
		if Check(m) != api.ErrArg || Degree(m) != 0 || IsPoly(m) {
			t.Error(m)
		}
	}
	for _, c := range []struct {
		p  api.Point
		is bool
	}{{endless, true}, {z(0), true}, {z(complex(minus, 1e300)), true}, {api.Point{Z: 1, Inf: true}, false}, {api.Point{Z: complex(minus, 0), Inf: true}, false}, {z(complex(inf, 0)), false}, {z(complex(0, nan)), false}} {
		if IsPoint(c.p) != c.is {
			t.Error(c)
		}
	}
	if !Like(endless, api.Point{Z: 5, Inf: true}) || Like(endless, z(0)) || Like(z(0), endless) || Like(z(0), z(complex(minus, 0))) || !Like(z(complex(nan, 1)), z(complex(-nan, 1))) || Like(z(1), z(2)) {
		t.Error("Like")
	}
}

func TestP10_2_P10_8(t *testing.T) {
	for _, c := range []struct {
		m    api.Map
		p, q api.Point
		ok   bool
	}{{s, z(2), z(3), true}, {s, endless, endless, true}, {t2, z(0), endless, true}, {t2, endless, z(0), true}, {same, z(0), z(0), false}, {same, endless, z(1), true}, {api.Map{P: api.Poly{0, 2}, Q: api.Poly{0, 1}}, endless, z(2), true}, {s, z(1e200), endless, true}, {s, z(complex(inf, 0)), z(0), false}, {s, api.Point{Z: 1, Inf: true}, z(0), false}, {api.Map{P: api.Poly{1e300}, Q: api.Poly{1e-300}}, endless, endless, true}, {api.Map{P: api.Poly{1e300}, Q: api.Poly{1e-300}}, z(3), endless, true}, {api.Map{P: api.Poly{1}, Q: api.Poly{1, 0, 1}}, z(1e200), endless, true}, {same, z(complex(minus, minus)), z(0), false}} {
		if q, ok := At(c.m, c.p); !Like(q, c.q) || ok != c.ok || q.Inf && q.Z != 0 {
			t.Error(c, q, ok)
		}
	}
	for _, m := range wrong() {
		if q, ok := At(m, z(0)); q != (api.Point{}) || ok {
			t.Error(m, q)
		}
		if q, ok := At(m, endless); q != (api.Point{}) || ok {
			t.Error(m, q)
		}
	}
	for _, m := range all() {
		for _, x := range []complex128{0, 1, -1, 0.5i, 3 - 2i, 1e160, 1e308} {
			u, _ := poly.At(m.P, x)
			v, _ := poly.At(m.Q, x)
			want, ok := At(m, z(x))
			if u == 0 && v == 0 {
				if ok {
					t.Error(m, x, want)
				}
				continue
			}
			q := cplx.Quo(u, v)
			if !ok || !IsPoint(want) || v != 0 && cplx.Kind(u) == api.CplxFinite && cplx.Kind(v) == api.CplxFinite && cplx.Kind(q) == api.CplxFinite && !Like(want, z(q)) {
				t.Error(m, x, want, q)
			}
		}
		if q, ok := At(m, endless); !ok || IsPoly(m) && Degree(m) > 0 && !q.Inf {
			t.Error(m, q)
		}
	}
}

func balls() []api.Ball {
	return []api.Ball{b(0, 0), b(0, 1), b(0.5, 0.125), b(2-1i, 0.01), b(1i, 1e-10), b(100, 1), b(1e200, 0)}
}

func TestP10_3_P10_6(t *testing.T) {
	r := rand.New(rand.NewSource(16))
	for _, m := range all() {
		for _, x := range balls() {
			u, _ := poly.On(m.P, x)
			v, _ := poly.On(m.Q, x)
			du, _ := poly.SlopeOn(m.P, x)
			dv, _ := poly.SlopeOn(m.Q, x)
			image, slope := ball.Quo(u, v), ball.Quo(ball.Sub(ball.Mul(du, v), ball.Mul(u, dv)), ball.Mul(v, v))
			if len(m.Q) == 1 && m.Q[0] == 1 {
				image, slope = u, du
			}
			i, d := Both(m, x)
			if i != image || d != slope || Image(m, x) != image || Slope(m, x) != slope {
				t.Error(m, x, i, d)
			}
			for range 5 {
				p := x.C + complex(x.R*r.Float64()*0.7, x.R*(r.Float64()-0.5))
				if !ball.Has(x, p) {
					continue
				}
				gives, e := Gives(m, g(p), i)
				rises, f := Rises(m, g(p), d)
				_, under, _ := Exact(m, g(p))
				if under == (api.Gauss{}) {
					if !ball.IsWhole(i) {
						t.Error("a pole", m, x)
					}
					continue
				}
				if e == api.OK && !gives || f == api.OK && !rises {
					t.Error(m, x, p, gives, rises)
				}
			}
		}
		for _, x := range []api.Ball{ball.Whole(), b(0, -1), b(complex(nan, 0), 0)} {
			if i, d := Both(m, x); i != ball.Whole() || d != ball.Whole() || Image(m, x) != i || Slope(m, x) != d {
				t.Error(m, x, i, d)
			}
		}
	}
	for _, m := range wrong() {
		if i, d := Both(m, b(0, 0)); i != ball.Whole() || d != ball.Whole() || Image(m, b(0, 0)) != i || Slope(m, b(0, 0)) != d {
			t.Error(m, i, d)
		}
	}
	if i := Image(s, b(0, 1)); i.C != -1 || i.R < 1 || i.R > 1+1e-9 {
		t.Error(i)
	}
	if Image(t2, b(0, 1)) != ball.Whole() || Slope(t2, b(0, 1)) != ball.Whole() {
		t.Error("poles")
	}
}

func TestP10_4(t *testing.T) {
	if n, d, e := Exact(t2, g(0.5)); n != g(1) || d != g(0.25) || e != api.OK {
		t.Error(n, d, e)
	}
	for _, c := range []struct {
		do  func(api.Map, api.Gauss, api.Ball) (bool, api.Errno)
		m   api.Map
		g   api.Gauss
		b   api.Ball
		yes bool
	}{{Gives, t2, g(0.5), b(4, 0), true}, {Gives, t2, g(0.5), b(4.5, 0.5), true}, {Gives, t2, g(0.5), b(4.5, 0.499), false}, {Rises, t2, g(0.5), b(-16, 0), true}, {Rises, t2, g(0.5), b(-15, 0.9), false}, {Rises, t2, g(0.5), b(-15, 1), true}, {Gives, t2, g(0), ball.Whole(), true}, {Gives, t2, g(0), b(0, 1), false}, {Gives, same, g(0), ball.Whole(), false}, {Gives, same, g(5), b(1, 0), true}, {Rises, t2, g(0), ball.Whole(), false}, {Rises, same, g(2), b(0, 0), true}, {Rises, t2, g(1), ball.Whole(), true}, {Gives, s, g(1i), b(-2, 0), true}, {Rises, s, g(1i), b(2i, 0), true}} {
		if yes, e := c.do(c.m, c.g, c.b); yes != c.yes || e != api.OK {
			t.Error(c.m, c.g, c.b, yes, e)
		}
	}
	long := api.Gauss{Re: api.Dyad{N: "\x01", Exp: api.MaxExp}}
	thin := api.Gauss{Re: api.Dyad{N: "\x01", Exp: -api.MaxExp + 2}}
	if n, d, e := Exact(s, long); n != d || n != (api.Gauss{}) || e != api.ErrLong {
		t.Error(n, d, e)
	}
	if n, d, e := Exact(t2, long); n != d || n != (api.Gauss{}) || e != api.ErrLong {
		t.Error(n, d, e)
	}
	one := api.Map{P: api.Poly{0, 1}, Q: api.Poly{1}}
	if yes, e := Gives(one, long, b(0, 1)); yes || e != api.ErrLong {
		t.Error(yes, e)
	}
	if yes, e := Gives(one, thin, b(1, 1)); yes || e != api.ErrLong {
		t.Error(yes, e)
	}
	if yes, e := Gives(one, long, ball.Whole()); !yes || e != api.OK {
		t.Error(yes, e)
	}
	if yes, e := Gives(s, long, ball.Whole()); yes || e != api.ErrLong {
		t.Error(yes, e)
	}
	if yes, e := Rises(api.Map{P: api.Poly{0, 1}, Q: api.Poly{0, 1}}, long, b(0, 0)); yes || e != api.ErrLong {
		t.Error(yes, e)
	}
	bad := api.Gauss{Im: api.Dyad{N: "\x02"}}
	for _, do := range []func(api.Map, api.Gauss, api.Ball) (bool, api.Errno){Gives, Rises} {
		for _, m := range wrong() {
			if yes, e := do(m, long, b(0, 1)); yes || e != api.ErrArg {
				t.Error(yes, e)
			}
		}
		_, e1 := do(s, bad, b(0, 1))
		_, e2 := do(s, long, b(0, -1))
		if e1 != api.ErrArg || e2 != api.ErrArg {
			t.Error(e1, e2)
		}
	}
	if n, _, e := Exact(wrong()[0], g(1)); n != (api.Gauss{}) || e != api.ErrArg {
		t.Error(n, e)
	}
	if n, _, e := Exact(s, bad); n != (api.Gauss{}) || e != api.ErrArg {
		t.Error(n, e)
	}
}

func TestP10_5_P10_7(t *testing.T) {
	if m, e := Turned(s); !slices.Equal(m.P, api.Poly{0, 0, 1}) || !slices.Equal(m.Q, api.Poly{1, 0, -1}) || e != api.OK {
		t.Error(m, e)
	}
	for _, m := range all() {
		n, e := Turned(m)
		if e != api.OK || Check(n) != api.OK {
			t.Error(m, n, e)
		}
		if m.P[0] != 0 || m.Q[0] != 0 {
			back, _ := Turned(n)
			if Degree(n) != Degree(m) || !slices.Equal(back.P, m.P) || !slices.Equal(back.Q, m.Q) {
				t.Error(m, n, back)
			}
			p, _ := At(n, z(0))
			q, _ := At(m, endless)
			if p.Inf != (!q.Inf && q.Z == 0) || q.Inf != (!p.Inf && p.Z == 0) {
				t.Error(m, p, q)
			}
		}
		for i := range n.P {
			n.P[i] = 99
		}
		if m.P[0] == 99 || m.Q[0] == 99 {
			t.Error("shares its memory")
		}
	}
	for _, m := range wrong() {
		if n, e := Turned(m); n.P != nil || n.Q != nil || e != api.ErrArg {
			t.Error(n, e)
		}
	}
}
