package trap

import (
	"math"
	"math/rand"
	"slices"
	"testing"

	"filigree/api"
	"filigree/ball"
	"filigree/bits"
	"filigree/cycles"
	"filigree/dyad"
	"filigree/escape"
	"filigree/flow"
	"filigree/gauss"
	"filigree/poly"
)

var (
	one    = api.Poly{1}
	sq     = api.Map{P: api.Poly{0, 0, 1}, Q: one}
	m      = api.Map{P: api.Poly{-1, 0, 1}, Q: one}
	newton = api.Map{P: api.Poly{1, 0, 0, 2}, Q: api.Poly{0, 0, 3}}
	flat   = api.Map{P: api.Poly{0.25}, Q: one}
	bad    = api.Map{P: one}
	nan    = math.NaN()
)

func b(c complex128, r float64) api.Ball { return api.Ball{C: c, R: r} }

func tried(m api.Map, x api.Ball, n int) (float64, bool) {
	w, _, _ := flow.After(m, b(x.C, 0), n)
	_, s, _ := flow.After(m, x, n)
	return ball.Contracts(ball.Sub(w, b(x.C, 0)), s, x.R)
}

func TestP18_1(t *testing.T) {
	traps := 0
	for _, m := range []api.Map{sq, m, newton, flat} {
		for _, c := range []complex128{0, 0.1, -1, 1, 0.25, 0.5i, 3} {
			for _, r := range []float64{1e-9, 0.01, 0.125, 0.25, 0.5, 2} {
				for _, n := range []int{1, 2, 3} {
					q, ok := tried(m, b(c, r), n)
					x, e := Make(m, b(c, r), n)
					if ok && (x != api.Trap{Ball: b(c, r), N: n, Slope: q} || e != api.OK || Check(m, x) != api.OK) || !ok && (x != api.Trap{} || e != api.ErrTrap) {
						t.Error(m, c, r, n, x, e)
					}
					if ok {
						traps++
					}
				}
			}
		}
	}
	if traps < 20 {
		t.Error("too few", traps)
	}
	x, e := Make(sq, b(0, 0.25), 1)
	if x.Slope < 0.5 || x.Slope > 0.5000001 || e != api.OK {
		t.Error(x, e)
	}
	for _, c := range []struct {
		m api.Map
		b api.Ball
		n int
		e api.Errno
	}{{bad, b(0, 0.25), 1, api.ErrArg}, {sq, b(0, -1), 1, api.ErrArg}, {sq, b(0, 0.25), 0, api.ErrArg}, {sq, b(0, 0.25), 33, api.ErrArg}, {sq, b(0, 0), 33, api.ErrArg}, {sq, ball.Whole(), 1, api.ErrTrap}, {sq, b(0, 0), 1, api.ErrTrap}, {sq, b(0, 0.5), 1, api.ErrTrap}, {sq, b(complex(nan, 0), 1), 1, api.ErrArg}} {
		if x, e := Make(c.m, c.b, c.n); x != (api.Trap{}) || e != c.e {
			t.Error(c, x, e)
		}
	}
	still, _ := Make(flat, b(0.25, 1), 1)
	if still.Slope != 0 {
		t.Error(still)
	}
	for _, c := range []struct {
		m api.Map
		t api.Trap
		e api.Errno
	}{{sq, x, api.OK}, {bad, x, api.ErrArg}, {sq, api.Trap{}, api.ErrTrap}, {sq, api.Trap{Ball: x.Ball, N: 1, Slope: bits.Up(x.Slope)}, api.ErrTrap}, {sq, api.Trap{Ball: x.Ball, N: 1, Slope: nan}, api.ErrTrap}, {sq, api.Trap{Ball: x.Ball, N: 0, Slope: x.Slope}, api.ErrTrap}, {sq, api.Trap{Ball: x.Ball, N: 33, Slope: x.Slope}, api.ErrTrap}, {sq, api.Trap{Ball: b(0, nan), N: 1, Slope: 0.5}, api.ErrTrap}, {sq, api.Trap{Ball: ball.Whole(), N: 1, Slope: 0.5}, api.ErrTrap}, {m, x, api.ErrTrap}, {flat, still, api.OK}, {flat, api.Trap{Ball: still.Ball, N: 1, Slope: math.Copysign(0, -1)}, api.ErrTrap}} {
		if e := Check(c.m, c.t); e != c.e {
			t.Error(c, e)
		}
	}
}

func TestP18_2(t *testing.T) {
	for _, m := range []api.Map{sq, m, newton, flat} {
		for _, z := range []complex128{0, 1, -1, 0.25, 1.618, 0.1i, 0.3} {
			for _, n := range []int{1, 2} {
				want, ok := api.Trap{}, false
				for e := 8; e >= -60 && !ok; e-- {
					x, f := Make(m, b(z, math.Ldexp(1, e)), n)
					want, ok = x, f == api.OK
				}
				x, e := Around(m, z, n)
				if x != want || ok != (e == api.OK) || !ok && e != api.ErrTrap {
					t.Error(m, z, n, x, want, e)
				}
			}
		}
	}
	if x, e := Around(sq, 0, 1); x.Ball != b(0, 0.25) || e != api.OK {
		t.Error(x, e)
	}
	if x, e := Around(m, 0, 2); x.N != 2 || e != api.OK {
		t.Error(x, e)
	}
	if x, e := Around(flat, 0.25, 1); x.Ball.R != 256 || e != api.OK {
		t.Error(x, e)
	}
	if x, e := Around(api.Map{P: api.Poly{1, 0, 1}, Q: one}, 0, 1); x != (api.Trap{}) || e != api.ErrTrap {
		t.Error(x, e)
	}
	for _, c := range []struct {
		m api.Map
		z complex128
		n int
	}{{bad, 0, 1}, {sq, complex(nan, 0), 1}, {sq, 0, 0}, {sq, 0, 33}} {
		if x, e := Around(c.m, c.z, c.n); x != (api.Trap{}) || e != api.ErrArg {
			t.Error(c, x, e)
		}
	}
	c, _ := cycles.Find(m, 2, 0.1)
	x, e := About(m, c)
	y, _ := Around(m, c.Points[0].C, 2)
	if x != y || e != api.OK {
		t.Error(x, e)
	}
	if x, e := About(bad, c); x != (api.Trap{}) || e != api.ErrArg {
		t.Error(x, e)
	}
	for _, c := range []api.Cycle{{}, {Period: 1}, {Period: 2, Points: []api.Ball{b(0, 1)}}, {Period: 1, Points: []api.Ball{b(complex(nan, 0), 1)}}, {Period: 33, Points: make([]api.Ball, 33)}} {
		if x, e := About(sq, c); x != (api.Trap{}) || e != api.ErrArg {
			t.Error(c, x, e)
		}
	}
}

func TestP18_3_P18_9(t *testing.T) {
	x, _ := Around(m, 0, 2)
	last := x.Ball
	for times := range 40 {
		n, e := Narrow(m, x, times)
		if e != api.OK || !ball.Inside(n, x.Ball) || !ball.Inside(n, last) || !ball.Has(n, 0) {
			t.Error(times, n, e)
		}
		if times > 0 {
			next, _, _ := flow.After(m, last, 2)
			if want := next; ball.Inside(next, last) && n != want || !ball.Inside(next, last) && n != last {
				t.Error(times, n, last)
			}
		}
		last = n
	}
	for _, c := range []struct {
		m     api.Map
		t     api.Trap
		times int
		e     api.Errno
	}{{m, x, -1, api.ErrArg}, {m, x, api.MaxSteps/2 + 1, api.ErrArg}, {m, x, math.MaxInt, api.ErrArg}, {sq, x, -1, api.ErrTrap}, {bad, x, 1, api.ErrArg}, {m, api.Trap{}, 1, api.ErrTrap}} {
		if n, e := Narrow(c.m, c.t, c.times); n != (api.Ball{}) || e != c.e {
			t.Error(c, n, e)
		}
	}
	if _, e := Narrow(m, x, api.MaxSteps/2); e != api.OK {
		t.Error(e)
	}
}

func TestP18_4_P18_6_P18_7_P18_8(t *testing.T) {
	rnd := rand.New(rand.NewSource(24))
	first, _ := Around(m, 0, 2)
	other, _ := Around(m, -1, 2)
	small, _ := Make(m, b(0, 0.01), 2)
	traps := []api.Trap{small, other, first}
	met := 0
	for range 200 {
		x := b(complex(rnd.NormFloat64(), rnd.NormFloat64()/2), 0.01*rnd.Float64())
		which, k, in, e := In(m, traps, x, 30)
		f, _ := flow.Run(m, x, 30)
		wantWhich, wantK, found := 0, 0, false
		for i, y := range f.Balls {
			for j, trap := range traps {
				inside := ball.Inside(y, trap.Ball)
				comes := Comes(m, trap, x, i)
				if inside && comes != api.OK || !inside && comes != api.ErrTold {
					t.Error(x, i, j, comes)
				}
				if inside && !found {
					wantWhich, wantK, found = j, i, true
				}
			}
		}
		if which != wantWhich || k != wantK || in != found || e != api.OK {
			t.Error(x, which, k, in, e)
		}
		if !in {
			continue
		}
		met++
		if w, n, is, _ := In(m, traps, x, 4000); w != which || n != k || !is {
			t.Error("more steps", x)
		}
		for j := range k + 1 {
			if _, n, is, _ := In(m, traps, f.Balls[j], 30); !is || n > k-j {
				t.Error("behind", j, x)
			}
		}
		if _, out, _ := escape.Out(m, x, 60); out {
			t.Error("both", x)
		}
		g, _ := gauss.Complex(x.C)
		for range k {
			g, _ = poly.Exact(m.P, g)
		}
		if gauss.Check(g) == api.OK && g != (api.Gauss{}) && !ball.Holds(traps[which].Ball, g) {
			t.Error("not there", x)
		}
	}
	if met < 20 {
		t.Error("too few", met)
	}
	if w, k, in, e := In(sq, []api.Trap{mustAround(sq, 0, 1)}, b(0.5, 0.01), 9); w != 0 || k != 2 || !in || e != api.OK {
		t.Error(w, k, in, e)
	}
	changed := first
	changed.Slope = bits.Down(changed.Slope)
	for _, c := range []struct {
		m     api.Map
		traps []api.Trap
		b     api.Ball
		steps int
		e     api.Errno
	}{{bad, slices.Repeat([]api.Trap{first}, 65), b(0, 0), 1, api.ErrArg}, {m, slices.Repeat([]api.Trap{changed}, 65), b(0, 0), 1, api.ErrLong}, {m, []api.Trap{first, changed}, b(0, -1), -1, api.ErrTrap}, {m, traps, b(0, -1), 1, api.ErrArg}, {m, traps, b(0, 0), -1, api.ErrArg}, {m, traps, b(0, 0), 4097, api.ErrArg}, {m, nil, b(0, 0), 9, 0}, {m, traps, ball.Whole(), 9, 0}, {m, traps, b(2, 0.1), 9, 0}} {
		if w, k, in, e := In(c.m, c.traps, c.b, c.steps); w != 0 || k != 0 || in || e != c.e {
			t.Error(c.steps, w, k, in, e)
		}
	}
	if w, k, in, e := In(m, slices.Repeat([]api.Trap{first}, 64), b(0, 0), 0); w != 0 || k != 0 || !in || e != api.OK {
		t.Error(w, k, in, e)
	}
	for _, c := range []struct {
		m    api.Map
		t    api.Trap
		b    api.Ball
		step int
		e    api.Errno
	}{{bad, first, b(0, 0), 0, api.ErrArg}, {m, changed, b(0, -1), -1, api.ErrTrap}, {m, first, b(0, -1), 0, api.ErrArg}, {m, first, b(0, 0), -1, api.ErrArg}, {m, first, b(0, 0), 4097, api.ErrArg}, {m, first, b(5, 0), 0, api.ErrTold}, {m, first, b(0, 0), 1, api.ErrTold}, {m, first, b(0, 0), 4096, api.OK}, {m, first, ball.Whole(), 3, api.ErrTold}} {
		if e := Comes(c.m, c.t, c.b, c.step); e != c.e {
			t.Error(c.b, c.step, e)
		}
	}
}

func mustAround(m api.Map, z complex128, n int) api.Trap {
	t, e := Around(m, z, n)
	if e != api.OK {
		panic(e)
	}
	return t
}

func TestP18_5(t *testing.T) {
	for _, c := range []struct {
		m api.Map
		z complex128
		n int
	}{{sq, 0, 1}, {m, 0, 2}, {m, -1, 2}, {flat, 0.25, 1}} {
		x := mustAround(c.m, c.z, c.n)
		slope, _ := dyad.Float(x.Slope)
		slope, _ = dyad.Mul(slope, slope)
		r, _ := escape.Radius(c.m)
		if far, _ := gauss.Complex(complex(r, 0)); r > 0 && ball.Holds(x.Ball, far) {
			t.Error("beyond", c)
		}
		for _, way := range []complex128{0, 1, -1, 1i, 0.5 - 0.5i} {
			g, _ := gauss.Complex(x.Ball.C + way*complex(x.Ball.R, 0))
			rise, _ := gauss.Complex(1)
			for range c.n {
				s, _ := poly.SlopeExact(c.m.P, g)
				rise, _ = gauss.Mul(rise, s)
				g, _ = poly.Exact(c.m.P, g)
			}
			norm, _ := gauss.Norm(rise)
			if order, _ := dyad.Cmp(norm, slope); order > 0 || !ball.Holds(x.Ball, g) {
				t.Error(c, way)
			}
		}
	}
}
