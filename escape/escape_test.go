package escape

import (
	"math"
	"math/rand"
	"testing"

	"filigree/api"
	"filigree/ball"
	"filigree/bits"
	"filigree/cplx"
	"filigree/dyad"
	"filigree/flow"
	"filigree/gauss"
	"filigree/poly"
	"filigree/ratmap"
)

var (
	one = api.Poly{1}
	sq  = api.Map{P: api.Poly{0, 0, 1}, Q: one}
	s   = api.Map{P: api.Poly{-1, 0, 1}, Q: one}
	cub = api.Map{P: api.Poly{0.25 - 1i, 3, 0, 0.5}, Q: one}
	hlf = api.Map{P: api.Poly{0, 0, 1}, Q: api.Poly{2}}
	inv = api.Map{P: one, Q: api.Poly{0, 0, 1}}
	bad = api.Map{P: one}
)

func b(c complex128, r float64) api.Ball { return api.Ball{C: c, R: r} }

func g(z complex128) api.Gauss {
	x, _ := gauss.Complex(z)
	return x
}

func TestP15_1_P15_9Radius(t *testing.T) {
	up := bits.Up
	for _, c := range []struct {
		m api.Map
		r float64
		e api.Errno
	}{{sq, up(up(2)), 0}, {s, up(up(up(1) + 2)), 0}, {api.Map{P: api.Poly{0, 1}, Q: one}, 0, api.ErrRadius}, {inv, 0, api.ErrRadius}, {api.Map{P: api.Poly{1, 0, 5e-324}, Q: one}, 0, api.ErrRadius}, {bad, 0, api.ErrArg}, {api.Map{P: api.Poly{5}, Q: one}, 0, api.ErrRadius}, {hlf, up(up(4)), 0}, {api.Map{P: api.Poly{0, 0, 100}, Q: one}, 1, 0}, {api.Map{P: api.Poly{0, 0, 1}, Q: api.Poly{1e308}}, 0, api.ErrRadius}, {api.Map{P: api.Poly{math.MaxFloat64, math.MaxFloat64, 1e308}, Q: one}, 0, api.ErrRadius}, {api.Map{P: api.Poly{0, 3i, 4}, Q: one}, up(up(up(3)+2) / 4), 0}, {api.Map{P: api.Poly{0, 0, 3 + 4i}, Q: one}, 1, 0}, {api.Map{P: api.Poly{0, 0, 0.75 + 1i}, Q: api.Poly{1 + 1i}}, up(up(2*cplx.Hi(1+1i)) / cplx.Lo(0.75+1i)), 0}} {
		if r, e := Radius(c.m); r != c.r || e != c.e {
			t.Error(c, r, e)
		}
	}
	rnd := rand.New(rand.NewSource(20))
	for range 100 {
		var p, turned, conj api.Poly
		for range 3 + rnd.Intn(5) {
			z := complex(rnd.NormFloat64(), rnd.NormFloat64())
			p, turned, conj = append(p, z), append(turned, cplx.Turn(z)), append(conj, cplx.Conj(z))
		}
		r, e := Radius(api.Map{P: p, Q: one})
		r1, _ := Radius(api.Map{P: turned, Q: one})
		r2, _ := Radius(api.Map{P: conj, Q: one})
		if e != api.OK || r < 1 || r != r1 || r != r2 {
			t.Error(p, r, r1, r2)
		}
		// the escape lemma
		z := complex(rnd.NormFloat64(), rnd.NormFloat64())
		z *= complex(r*(1+1e-9)/cplx.Lo(z), 0)
		v, _, _ := ratmap.Exact(api.Map{P: p, Q: one}, g(z))
		two, _ := gauss.Add(g(z), g(z))
		if c, _ := gauss.Cmp(v, two); cplx.Lo(z) >= r && c < 0 {
			t.Error("the lemma", p, z)
		}
	}
}

func TestP15_2Beyond(t *testing.T) {
	minus := math.Copysign(0, -1)
	for _, c := range []struct {
		b  api.Ball
		r  float64
		is bool
		e  api.Errno
	}{{b(3, 1), 2, true, 0}, {b(3, 1.5), 2, false, 0}, {b(3, 1), bits.Up(2), false, 0}, {b(3+4i, 2), 3, true, 0}, {b(3+4i, bits.Up(2)), 3, false, 0}, {ball.Whole(), 0, false, 0}, {b(0, 0), 0, true, 0}, {b(0, 0), minus, true, 0}, {b(0, 5e-324), 0, false, 0}, {b(0, 0), 5e-324, false, 0}, {b(0, -1), 0, false, api.ErrArg}, {b(5, 0), -1, false, api.ErrArg}, {b(5, 0), math.NaN(), false, api.ErrArg}, {b(5, 0), math.Inf(1), false, api.ErrArg}, {b(math.MaxFloat64, math.MaxFloat64), math.MaxFloat64, false, 0}, {b(complex(math.MaxFloat64, math.MaxFloat64), 0), math.MaxFloat64, true, 0}, {b(1, 0x1p-60), 1, false, 0}, {b(complex(1, 0x1p-60), 0), 1, true, 0}} {
		if is, e := Beyond(c.b, c.r); is != c.is || e != c.e {
			t.Error(c, is, e)
		}
	}
	rnd := rand.New(rand.NewSource(21))
	for range 300 {
		x := b(complex(rnd.NormFloat64(), rnd.NormFloat64()), math.Abs(rnd.NormFloat64())/4)
		r := math.Hypot(real(x.C), imag(x.C)) - x.R + float64(rnd.Intn(5)-2)*1e-16
		if r < 0 {
			continue
		}
		u, _ := dyad.Float(r)
		v, _ := dyad.Float(x.R)
		far, _ := dyad.Add(u, v)
		far, _ = dyad.Mul(far, far)
		norm, _ := gauss.Norm(g(x.C))
		c, _ := dyad.Cmp(norm, far)
		if is, e := Beyond(x, r); is != (c >= 0) || e != api.OK {
			t.Error(x, r, is)
		}
	}
}

func TestP15_3_P15_4_P15_7_P15_8(t *testing.T) {
	rnd := rand.New(rand.NewSource(22))
	for _, m := range []api.Map{sq, s, cub, hlf} {
		r, _ := Radius(m)
		for range 60 {
			x := b(complex(rnd.NormFloat64()*2, rnd.NormFloat64()*2), 0.02*rnd.Float64())
			k, out, e := Out(m, x, 20)
			if e != api.OK {
				t.Fatal(e)
			}
			f, _ := flow.Run(m, x, 20)
			want, found := 0, false
			for i, y := range f.Balls {
				is, _ := Beyond(y, r)
				if is && !found {
					want, found = i, true
				}
				check := Check(m, x, i)
				if is && check != api.OK || !is && check != api.ErrTold {
					t.Error(m, x, i, check)
				}
			}
			if k != want || out != found {
				t.Error(m, x, k, out, want, found)
			}
			if !out {
				continue
			}
			if n, is, _ := Out(m, x, 4096); n != k || !is {
				t.Error("more steps", m, x)
			}
			if n, is, _ := Out(m, x, k); n != k || !is {
				t.Error("just as many steps", m, x)
			}
			if _, is, _ := Out(m, x, k-1); k > 0 && is {
				t.Error("fewer steps", m, x)
			}
			for j := range k + 1 {
				if n, is, _ := Out(m, f.Balls[j], 20); !is || n > k-j {
					t.Error("behind", j, m, x, n, is)
				}
			}
			if len(m.Q) == 1 && m.Q[0] == 1 {
				if n, is, e := Exact(m, g(x.C), 20); e == api.OK && (!is || n > k) {
					t.Error("Exact", m, x, n, is, k)
				}
			}
		}
	}
	if k, out, e := Out(sq, b(4, 0.5), 9); k != 0 || !out || e != api.OK {
		t.Error(k, out, e)
	}
	if k, out, e := Out(sq, b(1.5, 0.1), 9); k != 2 || !out || e != api.OK {
		t.Error(k, out, e)
	}
	if k, out, e := Out(sq, b(0.5, 0.1), 9); k != 0 || out || e != api.OK {
		t.Error(k, out, e)
	}
	if k, out, e := Out(s, b(0, 0.25), 100); k != 0 || out || e != api.OK {
		t.Error("an orbit that comes back", k, out, e)
	}
	for _, c := range []struct {
		m     api.Map
		b     api.Ball
		steps int
		e     api.Errno
	}{{sq, b(0, 0), -1, api.ErrArg}, {sq, b(0, 0), api.MaxSteps + 1, api.ErrArg}, {inv, b(0, 0), -1, api.ErrArg}, {bad, b(0, 0), 1, api.ErrArg}, {sq, b(0, -1), 1, api.ErrArg}, {inv, b(5, 0), 1, api.ErrRadius}} {
		k, out, e := Out(c.m, c.b, c.steps)
		if k != 0 || out || e != c.e || Check(c.m, c.b, c.steps) != c.e {
			t.Error(c, k, out, e)
		}
	}
}

func TestP15_5Exactly(t *testing.T) {
	for _, c := range []struct {
		m     api.Map
		z     complex128
		steps int
		k     int
		out   bool
		e     api.Errno
	}{{sq, 1.5, 9, 1, true, 0}, {sq, 0.5, 5, 0, false, 0}, {sq, 1, 100, 0, false, 0}, {hlf, 5, 5, 0, false, api.ErrQuotient}, {inv, 5, 5, 0, false, api.ErrRadius}, {bad, 5, 5, 0, false, api.ErrArg}, {sq, 5, -1, 0, false, api.ErrArg}, {sq, 5, 4097, 0, false, api.ErrArg}, {sq, 0.5, 30, 0, false, api.ErrLong}, {sq, 5, 4096, 0, true, 0}, {api.Map{P: api.Poly{0, 0, 1}, Q: api.Poly{complex(1, math.Copysign(0, -1))}}, 5, 1, 0, true, 0}} {
		if k, out, e := Exact(c.m, g(c.z), c.steps); k != c.k || out != c.out || e != c.e {
			t.Error(c, k, out, e)
		}
	}
	if k, out, e := Exact(sq, api.Gauss{Re: api.Dyad{N: "\x02"}}, 1); k != 0 || out || e != api.ErrArg {
		t.Error(k, out, e)
	}
	far := api.Gauss{Re: api.Dyad{N: "\x01", Exp: api.MaxExp}}
	if k, out, e := Exact(sq, far, 0); k != 0 || out || e != api.ErrLong {
		t.Error(k, out, e)
	}
	for _, m := range []api.Map{sq, s, cub} {
		l, e := Orbit(m, g(0.5-0.25i), 5)
		if e != api.OK || len(l) != 6 || l[0] != g(0.5-0.25i) {
			t.Fatal(l, e)
		}
		for i := range 5 {
			if x, _ := poly.Exact(m.P, l[i]); x != l[i+1] {
				t.Error(m, i)
			}
		}
	}
	if l, e := Orbit(sq, g(0.5), 2); len(l) != 3 || l[2] != g(0.0625) || e != api.OK {
		t.Error(l, e)
	}
	if l, e := Orbit(inv, g(1), 0); l != nil || e != api.ErrQuotient {
		t.Error(l, e)
	}
	for _, c := range []struct {
		m     api.Map
		g     api.Gauss
		steps int
		e     api.Errno
	}{{hlf, g(1), 1, api.ErrQuotient}, {bad, g(1), 1, api.ErrArg}, {hlf, g(1), -1, api.ErrArg}, {sq, g(1), 4097, api.ErrArg}, {sq, api.Gauss{Im: api.Dyad{N: "\x02"}}, 1, api.ErrArg}, {sq, far, 1, api.ErrLong}, {sq, g(0.5), 4096, api.ErrLong}} {
		if l, e := Orbit(c.m, c.g, c.steps); l != nil || e != c.e {
			t.Error(c, e)
		}
	}
	if l, e := Orbit(api.Map{P: api.Poly{0, 1}, Q: one}, g(3i), 4096); len(l) != 4097 || l[4096] != g(3i) || e != api.OK {
		t.Error(len(l), e)
	}
}
