package roots

import (
	"math"
	"math/rand"
	"slices"
	"testing"

	"filigree/api"
	"filigree/ball"
	"filigree/cplx"
	"filigree/gauss"
	"filigree/poly"
)

var nan, inf = math.NaN(), math.Inf(1)

func wrong() []api.Poly { return []api.Poly{nil, {}, {1, 0}, {complex(nan, 0), 1}, make(api.Poly, 18)} }

func polys() []api.Poly {
	l := []api.Poly{{-1, 0, 1}, {5}, {0, 1}, {0, 0, 1}, {1, 0, 1}, {-1i, 2, 0.5, 1}, {1e300, 1e-300}, {1, 5e-324}, {5e-324, 1e308, 1}}
	r := rand.New(rand.NewSource(23))
	for range 20 {
		p := api.Poly{}
		for range 2 + r.Intn(7) {
			p = append(p, complex(r.NormFloat64(), r.NormFloat64()))
		}
		l = append(l, p)
	}
	return l
}

func fin(z complex128) bool { return cplx.Kind(z) == api.CplxFinite }

func TestP16_1_P16_7(t *testing.T) {
	for _, p := range polys() {
		n := len(p) - 1
		s := 0.0
		for _, a := range p[:n] {
			s = max(s, cplx.Hi(a))
		}
		x := 1 + s/cplx.Hi(p[n])
		if math.IsInf(x, 0) || x != x {
			x = 1
		}
		z := complex(x, 0)
		l, e := Start(p)
		if e != api.OK || len(l) != n {
			t.Fatal(p, l, e)
		}
		for k := range l {
			if !cplx.Same(l[k], z) {
				t.Error(p, k, l[k], z)
			}
			z = cplx.Mul(z, 0.4+0.9i)
		}
		for steps := range 6 {
			if g, e := Guess(p, steps); !slices.Equal(g, l) || e != api.OK {
				t.Error(p, steps, g, l)
			}
			want := make([]complex128, n)
			for k, z := range l {
				u, _ := poly.At(p, z)
				d := p[n]
				for j := range l {
					if j != k {
						d = cplx.Mul(d, cplx.Sub(z, l[j]))
					}
				}
				q := cplx.Quo(u, d)
				want[k] = z
				if fin(q) && fin(cplx.Sub(z, q)) {
					want[k] = cplx.Sub(z, q)
				}
			}
			old := slices.Clone(l)
			next, e := Step(p, l)
			if !slices.Equal(next, want) || e != api.OK || !slices.Equal(l, old) {
				t.Error(p, l, next, want)
			}
			l = next
		}
	}
	if l, _ := Start(api.Poly{-1, 0, 1}); !slices.Equal(l, []complex128{2, 0.8 + 1.8i}) {
		t.Error(l)
	}
	if l, e := Step(api.Poly{-1, 0, 1}, []complex128{1, 1}); !slices.Equal(l, []complex128{1, 1}) || e != api.OK {
		t.Error(l, e)
	}
	if l, e := Guess(api.Poly{-1, 0, 1}, api.MaxRootSteps); len(l) != 2 || e != api.OK {
		t.Error(l, e)
	}
	roots, all, e := All(api.Poly{0, 1})
	if !all || e != api.OK || !ball.Has(roots[0].B, 0) {
		t.Error(roots, all, e)
	}
}

func TestErrors(t *testing.T) {
	for _, p := range wrong() {
		l1, e1 := Start(p)
		l2, e2 := Step(p, nil)
		l3, e3 := Guess(p, 1)
		z, ok := Newton(p, 1)
		b, told, e4 := Certify(p, 1)
		l4, all, e5 := All(p)
		if len(l1)+len(l2)+len(l3)+len(l4) != 0 || z != 0 || ok || b != (api.Ball{}) || told || all || e1 != api.ErrArg || e2 != api.ErrArg || e3 != api.ErrArg || e4 != api.ErrArg || e5 != api.ErrArg {
			t.Error(p, e1, e2, e3, e4, e5)
		}
	}
	p := api.Poly{-1, 0, 1}
	for _, l := range [][]complex128{nil, {1}, {1, 2, 3}, {1, complex(nan, 0)}, {complex(0, inf), 1}} {
		if m, e := Step(p, l); m != nil || e != api.ErrArg {
			t.Error(l, m, e)
		}
	}
	for _, n := range []int{-1, api.MaxRootSteps + 1, math.MinInt} {
		if m, e := Guess(p, n); m != nil || e != api.ErrArg {
			t.Error(n, m, e)
		}
	}
	for _, z := range []complex128{complex(nan, 0), complex(0, inf)} {
		if b, ok, e := Certify(p, z); b != (api.Ball{}) || ok || e != api.ErrArg {
			t.Error(z, b, ok, e)
		}
		if x, ok := Newton(p, z); x != 0 || ok {
			t.Error(z, x, ok)
		}
	}
}

func TestP16_2Newton(t *testing.T) {
	for _, p := range polys() {
		for _, z := range []complex128{0, 1, 2, -1i, 0.3 + 0.4i, 1e200} {
			u, _ := poly.At(p, z)
			v, _ := poly.SlopeAt(p, z)
			q := cplx.Quo(u, v)
			x, ok := Newton(p, z)
			if want := cplx.Sub(z, q); ok != (fin(q) && fin(want)) || ok && !cplx.Same(x, want) || !ok && x != 0 {
				t.Error(p, z, x, ok)
			}
		}
	}
	if x, ok := Newton(api.Poly{-1, 0, 1}, 2); x != 1.25 || !ok {
		t.Error(x, ok)
	}
}

func TestP16_3Certify(t *testing.T) {
	for _, p := range polys() {
		for _, z := range []complex128{0, 1, -1, 1 + 1e-9, 0.3 + 0.4i, 5, 1e-200, 1e200, -1e-300} {
			b, ok, e := Certify(p, z)
			if e != api.OK || !ok && b != (api.Ball{}) {
				t.Error(p, z, b, ok, e)
			}
			v, _ := poly.SlopeAt(p, z)
			y := cplx.Quo(1, v)
			if len(p) == 1 || v == 0 || !fin(v) || !fin(y) {
				if ok {
					t.Error(p, z, b)
				}
				continue
			}
			h, _ := poly.On(p, ball.Point(z))
			move := ball.Neg(ball.Mul(ball.Point(y), h))
			r := max(ball.Hi(move)*2, cplx.Hi(z)*math.Ldexp(1, -50), math.Ldexp(1, -1000))
			want, found := api.Ball{}, false
			for range 12 {
				x := api.Ball{C: z, R: r}
				if d, e := poly.SlopeOn(p, x); e == api.OK && !found {
					if _, found = ball.Contracts(move, ball.Sub(ball.Point(1), ball.Mul(ball.Point(y), d)), r); found {
						want = x
					}
				}
				r *= 4
			}
			if b != want || ok != found {
				t.Error(p, z, b, want)
			}
		}
	}
	if b, ok, _ := Certify(api.Poly{-1, 0, 1}, 1); !ok || b.C != 1 || b.R > 0x1p-45 {
		t.Error(b, ok)
	}
	for _, c := range []struct {
		p api.Poly
		z complex128
	}{{api.Poly{0, 0, 1}, 0}, {api.Poly{1, 0, 1}, 5}, {api.Poly{5}, 0}} {
		if b, ok, e := Certify(c.p, c.z); b != (api.Ball{}) || ok || e != api.OK {
			t.Error(c, b, ok, e)
		}
	}
}

// product is the polynomial with those roots, where its coefficients are exact.
func product(l []complex128) api.Poly {
	p := api.Poly{1}
	for _, z := range l {
		p, _ = poly.Mul(p, api.Poly{-z, 1})
	}
	return p
}

func TestP16_4_P16_5_P16_6(t *testing.T) {
	told := 0
	for _, l := range [][]complex128{{1, -1}, {0}, {1, 2, 3}, {1i, -1i, 2}, {0, 0, 1}, {2, 2, 2}, {1, 2, 3, 4, 5, 6}, {0.5, -0.25 + 1i, 3i, -2}, {1, 1 + 1i, 1, -4}, {-8, -7, 7, 8, 1i}} {
		p := product(l)
		roots, all, e := All(p)
		if e != api.OK || len(roots) != len(l) {
			t.Fatal(l, e)
		}
		guesses, _ := Guess(p, api.RootSteps)
		ones := 0
		for i, r := range roots {
			z := guesses[i]
			for range 3 {
				if next, ok := Newton(p, z); ok {
					z = next
				} else {
					break
				}
			}
			b, ok, _ := Certify(p, z)
			for _, other := range roots[:i] {
				if other.One && ok && !ball.Apart(b, other.B) {
					ok = false
				}
			}
			if !cplx.Same(r.Z, z) || r.One != ok || ok && r.B != b || !ok && r.B != (api.Ball{}) {
				t.Error(l, i, r, b, ok)
			}
			if !r.One {
				continue
			}
			ones++
			held := 0
			for _, z := range l {
				if g, _ := gauss.Complex(z); ball.Holds(r.B, g) {
					held++
				}
			}
			if held != 1 {
				t.Error(l, r, held)
			}
		}
		if all != (ones == len(l)) {
			t.Error(l, all, ones)
		}
		told += ones
	}
	if told < 20 {
		t.Error("too few told", told)
	}
	if roots, all, e := All(api.Poly{5}); len(roots) != 0 || !all || e != api.OK {
		t.Error(roots, all, e)
	}
	if roots, all, e := All(api.Poly{0, 0, 1}); len(roots) != 2 || roots[0].One || roots[1].One || all || e != api.OK {
		t.Error(roots, all, e)
	}
	if roots, all, _ := All(api.Poly{-1, 0, 1}); !all || !roots[0].One || !roots[1].One {
		t.Error(roots, all)
	}
}
