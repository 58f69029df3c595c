package poly

import (
	"math"
	"math/rand"
	"slices"
	"testing"

	"filigree/api"
	"filigree/ball"
	"filigree/bits"
	"filigree/cplx"
	"filigree/gauss"
)

var (
	inf, nan = math.Inf(1), math.NaN()
	minus    = math.Copysign(0, -1)
)

func wrong() []api.Poly {
	return []api.Poly{{0}, {1, 0}, {1, complex(minus, minus)}, {complex(nan, 0), 1}, {complex(0, inf)}, make(api.Poly, 18), slices.Repeat(api.Poly{1}, 18)}
}

func polys() []api.Poly {
	l := []api.Poly{nil, {}, {5}, {2, 3, 1}, {0, 1}, {complex(minus, 0), complex(0, minus), 1}, {1 + 2i, -1, 0.5i}, slices.Repeat(api.Poly{1 - 1i}, 17), {1e200, 1e-200, 3}, {0.1, 0.2, 0.3, 0.4}}
	r := rand.New(rand.NewSource(14))
	for i := range 12 {
		var p api.Poly
		for range 1 + i%7 {
			p = append(p, complex(r.NormFloat64(), r.NormFloat64()))
		}
		l = append(l, p)
	}
	return l
}

func g(z complex128) api.Gauss {
	x, _ := gauss.Complex(z)
	return x
}

func TestP9_1(t *testing.T) {
	for _, p := range polys() {
		d, ok := Degree(p)
		if Check(p) != api.OK || ok != (len(p) > 0) || ok && d != len(p)-1 || !Same(p, p) {
			t.Error(p, d, ok)
		}
		of, e := Of(p...)
		if !Same(of, p) || e != api.OK {
			t.Error(p, of, e)
		}
		if len(of) > 0 {
			first := p[0]
			if of[0] = 99; p[0] != first {
				t.Error("shares its memory")
			}
		}
	}
	for _, p := range wrong() {
		if d, ok := Degree(p); Check(p) != api.ErrArg || d != 0 || ok {
			t.Error(p)
		}
	}
	for _, c := range []struct {
		l    []complex128
		want api.Poly
		e    api.Errno
	}{{[]complex128{1, 0, 0}, api.Poly{1}, 0}, {[]complex128{0, complex(minus, 0)}, nil, 0}, {[]complex128{1, complex(0, nan)}, nil, api.ErrFloat}, {slices.Repeat([]complex128{1}, 18), nil, api.ErrLong}, {append(slices.Repeat([]complex128{1}, 17), make([]complex128, 30)...), slices.Repeat(api.Poly{1}, 17), 0}, {append(make([]complex128, 30), complex(inf, 0)), nil, api.ErrFloat}, {nil, nil, 0}} {
		if p, e := Of(c.l...); !Same(p, c.want) || e != c.e {
			t.Error(c, p, e)
		}
	}
	if Same(api.Poly{0}, api.Poly{complex(minus, 0)}) || !Same(api.Poly{complex(nan, 1)}, api.Poly{complex(-nan, 1)}) || Same(api.Poly{1}, api.Poly{1, 0}) || !Same(nil, api.Poly{}) || Same(api.Poly{1}, nil) {
		t.Error("Same")
	}
}

func TestP9_2_P9_3_P9_8(t *testing.T) {
	points := []complex128{0, 1, 2, -1, 1i, 0.5 - 0.25i, complex(minus, 3), 1e160, complex(inf, 0), complex(nan, 1)}
	for _, p := range polys() {
		for _, z := range points {
			var s, d complex128
			if len(p) > 0 {
				s = p[len(p)-1]
			}
			for k := len(p) - 2; k >= 0; k-- {
				s = cplx.Add(cplx.Mul(s, z), p[k])
			}
			for k := len(p) - 1; k > 0; k-- {
				if term := cplx.Scale(p[k], float64(k)); k == len(p)-1 {
					d = term
				} else {
					d = cplx.Add(cplx.Mul(d, z), term)
				}
			}
			if x, e := At(p, z); !cplx.Same(x, s) || e != api.OK {
				t.Error(p, z, x, s)
			}
			if x, e := SlopeAt(p, z); !cplx.Same(x, d) || e != api.OK {
				t.Error(p, z, x, d)
			}
			x, e := gauss.Complex(z)
			if e != api.OK {
				continue
			}
			exact, slope := api.Gauss{}, api.Gauss{}
			power, below := g(1), api.Gauss{}
			for k, a := range p {
				term, _ := gauss.Mul(g(a), power)
				exact, _ = gauss.Add(exact, term)
				rise, _ := gauss.Mul(g(complex(float64(k), 0)), below)
				rise, _ = gauss.Mul(rise, g(a))
				slope, _ = gauss.Add(slope, rise)
				below = power
				power, _ = gauss.Mul(power, x)
			}
			got, e := Exact(p, x)
			rise, f := SlopeExact(p, x)
			if got != exact || rise != slope || e != api.OK || f != api.OK {
				t.Error(p, z, e, f)
			}
			for _, r := range []float64{0, 0.125} {
				b := api.Ball{C: z + complex(r, 0), R: r * 1.5}
				on, e := On(p, b)
				so, f := SlopeOn(p, b)
				if e != api.OK || f != api.OK || !ball.Holds(on, exact) || !ball.Holds(so, slope) {
					t.Error(p, b, on, so)
				}
			}
		}
		for _, b := range []api.Ball{ball.Whole(), {C: 0.3, R: 0.1}} {
			var s, d api.Ball
			for k := len(p) - 1; k >= 0; k-- {
				term := ball.Mul(ball.Point(complex(float64(k), 0)), ball.Point(p[k]))
				if k == len(p)-1 {
					s, d = ball.Point(p[k]), term
					continue
				}
				s = ball.Add(ball.Mul(s, b), ball.Point(p[k]))
				if k > 0 {
					d = ball.Add(ball.Mul(d, b), term)
				}
			}
			if len(p) < 2 {
				d = api.Ball{}
			}
			on, e := On(p, b)
			so, f := SlopeOn(p, b)
			if on != s || so != d || e != api.OK || f != api.OK {
				t.Error(p, b, on, s, so, d)
			}
		}
	}
	if z, _ := At(nil, complex(nan, 0)); !cplx.Same(z, 0) {
		t.Error(z)
	}
	far := api.Gauss{Re: api.Dyad{N: "\x01", Exp: api.MaxExp}}
	if x, e := Exact(api.Poly{0, 0, 1}, far); x != (api.Gauss{}) || e != api.ErrLong {
		t.Error(x, e)
	}
	if x, e := SlopeExact(api.Poly{1, 0, 0, 1}, far); x != (api.Gauss{}) || e != api.ErrLong {
		t.Error(x, e)
	}
}

func TestP9_4_P9_11(t *testing.T) {
	for _, p := range polys() {
		d, e := Derive(p)
		for k := 1; k < len(p); k++ {
			if k <= len(d) && !cplx.Same(d[k-1], cplx.Scale(p[k], float64(k))) {
				t.Error(p, d)
			}
		}
		if e != api.OK || len(d) != max(0, len(p)-1) {
			t.Error(p, d, e)
		}
		for _, q := range polys() {
			sum, e := Add(p, q)
			other, f := Add(q, p)
			if !Same(sum, other) || e != api.OK || f != api.OK || Check(sum) != api.OK {
				t.Error(p, q, sum, other)
			}
			for k := range max(len(p), len(q)) {
				if want := cplx.Add(at(p, k), at(q, k)); k < len(sum) && !cplx.Same(sum[k], want) || k >= len(sum) && want != 0 {
					t.Error(p, q, sum)
				}
			}
			product, e := Mul(p, q)
			if len(p) > 0 && len(q) > 0 && len(p)+len(q) > 18 {
				if product != nil || e != api.ErrLong {
					t.Error(p, q, product, e)
				}
				continue
			}
			for k := range product {
				var terms []complex128
				for i := range p {
					if k-i >= 0 && k-i < len(q) {
						terms = append(terms, cplx.Mul(p[i], q[k-i]))
					}
				}
				if !cplx.Same(product[k], cplx.Sum(terms...)) {
					t.Error(p, q, product)
				}
			}
			finite := true
			for _, a := range p {
				for _, b := range q {
					finite = finite && cplx.Kind(cplx.Mul(a, b)) == api.CplxFinite
				}
			}
			if want := len(p) + len(q) - 1; finite && (e != api.OK || len(p)*len(q) > 0 && len(product) != want || len(p)*len(q) == 0 && len(product) != 0) || !finite && (e != api.ErrFloat || product != nil) {
				t.Error(p, q, product, e)
			}
		}
		by := 0.5 - 3i
		scaled, e := Scale(p, by)
		for k := range scaled {
			if !cplx.Same(scaled[k], cplx.Mul(p[k], by)) {
				t.Error(p, scaled)
			}
		}
		if e != api.OK || len(scaled) != len(p) {
			t.Error(p, scaled, e)
		}
	}
	big := api.Poly{0, math.MaxFloat64, 1e308}
	for _, c := range []struct {
		p api.Poly
		e api.Errno
	}{result(Derive(big)), result(Add(big, big)), result(Mul(big, big)), result(Scale(big, 2)), result(Scale(big, complex(nan, 0))), result(Scale(nil, complex(0, inf))), result(Mul(api.Poly{complex(1e200, 1e200)}, api.Poly{complex(1e200, 1e200)}))} {
		if c.p != nil || c.e != api.ErrFloat {
			t.Error(c)
		}
	}
	for _, c := range []struct {
		p    api.Poly
		e    api.Errno
		want api.Poly
	}{{first(Add(api.Poly{2, 3, 1}, api.Poly{0, 0, -1})), 0, api.Poly{2, 3}}, {first(Mul(api.Poly{1, 1}, api.Poly{2, 1})), 0, api.Poly{2, 3, 1}}, {first(Scale(api.Poly{1, 5e-324}, 0.25)), 0, api.Poly{0.25}}, {first(Mul(api.Poly{1, 1e-200}, api.Poly{1, 1e-200})), 0, api.Poly{1, 2e-200}}, {first(Scale(api.Poly{1}, 0)), 0, nil}} {
		if !Same(c.p, c.want) {
			t.Error(c)
		}
	}
}

func result(p api.Poly, e api.Errno) struct {
	p api.Poly
	e api.Errno
} {
	return struct {
		p api.Poly
		e api.Errno
	}{p, e}
}

func first(p api.Poly, e api.Errno) api.Poly { return p }

func TestP9_5_P9_10Turn(t *testing.T) {
	for _, c := range []struct {
		p    api.Poly
		n    int
		want api.Poly
		e    api.Errno
	}{{api.Poly{2, 3, 1}, 2, api.Poly{1, 3, 2}, 0}, {api.Poly{2, 3, 1}, 3, api.Poly{0, 1, 3, 2}, 0}, {api.Poly{2, 3, 1}, 1, nil, api.ErrDegree}, {api.Poly{0, 1}, 1, api.Poly{1}, 0}, {nil, 0, nil, 0}, {nil, 16, nil, 0}, {nil, -1, nil, api.ErrDegree}, {nil, 17, nil, api.ErrLong}, {api.Poly{1}, math.MaxInt, nil, api.ErrLong}, {api.Poly{1}, math.MinInt, nil, api.ErrDegree}, {api.Poly{5}, 16, append(make(api.Poly, 16), 5), 0}} {
		if p, e := Turn(c.p, c.n); !Same(p, c.want) || e != c.e {
			t.Error(c, p, e)
		}
	}
	for _, p := range polys() {
		q, _ := Turn(p, 16)
		if back, e := Turn(q, 16); !slices.Equal(back, p) || e != api.OK {
			t.Error(p, back)
		}
		for _, c := range [][2]complex128{{1, 1}, {-1, -1}, {1i, -1i}, {2, 0.5}, {-0.25, -4}} {
			x, _ := Exact(q, g(c[0]))
			y, _ := Exact(p, g(c[1]))
			power, _ := gauss.Pow(g(c[0]), 16)
			if y, _ = gauss.Mul(y, power); x != y {
				t.Error(p, c)
			}
		}
	}
}

func TestP9_6_P9_9Divide(t *testing.T) {
	for _, c := range []struct {
		p, quo  api.Poly
		r, rest complex128
		e       api.Errno
	}{{api.Poly{2, 3, 1}, api.Poly{2, 1}, -1, 0, 0}, {api.Poly{2, 3, 1}, api.Poly{4, 1}, 1, 6, 0}, {api.Poly{5}, nil, 1, 0, api.ErrDegree}, {nil, nil, complex(nan, 0), 0, api.ErrDegree}, {api.Poly{0, 1}, nil, complex(nan, 0), 0, api.ErrFloat}, {api.Poly{0, 1, 1e300}, nil, 1e300, 0, api.ErrFloat}, {api.Poly{0, 1e300}, nil, 1e300, 0, api.ErrFloat}} {
		if q, rest, e := Divide(c.p, c.r); !Same(q, c.quo) || rest != c.rest || e != c.e {
			t.Error(c, q, rest, e)
		}
	}
	for _, p := range []api.Poly{{2, 3, 1}, {1, -7i, 4, 2 + 2i}, {8, 0, 0, 0, 0.5}} {
		for _, r := range []complex128{1, 2i, -0.5, 3 - 1i} {
			q, rest, _ := Divide(p, r)
			for _, z := range []complex128{0, 1, 5i, -2.5} {
				left, _ := Exact(p, g(z))
				right, _ := Exact(q, g(z))
				right, _ = gauss.Mul(right, g(z-r))
				right, _ = gauss.Add(right, g(rest))
				if left != right {
					t.Error(p, r, z)
				}
			}
		}
	}
}

func TestP9_7Bulk(t *testing.T) {
	for _, p := range polys() {
		s, low := 0.0, 0.0
		for _, a := range p {
			if a != 0 {
				s = bits.Up(s + cplx.Hi(a))
				low += cplx.Lo(a)
			}
		}
		if b, e := Bulk(p); b != s || e != api.OK || b < low {
			t.Error(p, b, s)
		}
	}
	if b, e := Bulk(api.Poly{0, 0, 3}); b != bits.Up(3) || e != api.OK {
		t.Error(b, e)
	}
	if b, e := Bulk(api.Poly{math.MaxFloat64, math.MaxFloat64}); b != inf || e != api.OK {
		t.Error(b, e)
	}
}

func TestWrongArguments(t *testing.T) {
	badG, badB := api.Gauss{Re: api.Dyad{N: "\x02"}}, api.Ball{R: -1}
	good := api.Poly{1}
	var l []api.Errno
	for _, p := range wrong() {
		z1, e1 := At(p, 0)
		b1, e2 := On(p, badB)
		g1, e3 := Exact(p, badG)
		z2, e4 := SlopeAt(p, 0)
		b2, e5 := SlopeOn(p, api.Ball{})
		g2, e6 := SlopeExact(p, api.Gauss{})
		p1, e7 := Derive(p)
		p2, e8 := Add(p, good)
		p3, e9 := Add(good, p)
		p4, e10 := Mul(p, good)
		p5, e11 := Mul(nil, p)
		p6, e12 := Scale(p, complex(nan, 0))
		p7, e13 := Turn(p, -1)
		p8, z3, e14 := Divide(p, complex(nan, 0))
		x, e15 := Bulk(p)
		l = append(l, e1, e2, e3, e4, e5, e6, e7, e8, e9, e10, e11, e12, e13, e14, e15)
		if z1 != 0 || z2 != 0 || z3 != 0 || x != 0 || b1 != b2 || b1 != (api.Ball{}) || g1 != g2 || g1 != (api.Gauss{}) || len(p1)+len(p2)+len(p3)+len(p4)+len(p5)+len(p6)+len(p7)+len(p8) != 0 {
			t.Error("an answer beside an error")
		}
	}
	_, e1 := On(good, badB)
	_, e2 := SlopeOn(nil, badB)
	_, e3 := Exact(nil, badG)
	_, e4 := SlopeExact(good, badG)
	for _, e := range append(l, e1, e2, e3, e4) {
		if e != api.ErrArg {
			t.Error(e)
		}
	}
}
