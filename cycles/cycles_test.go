package cycles

import (
	"math"
	"slices"
	"testing"

	"filigree/api"
	"filigree/ball"
	"filigree/cplx"
	"filigree/flow"
	"filigree/poly"
	"filigree/ratmap"
)

var (
	one    = api.Poly{1}
	m      = api.Map{P: api.Poly{-1, 0, 1}, Q: one}
	sq     = api.Map{P: api.Poly{0, 0, 1}, Q: one}
	inv    = api.Map{P: one, Q: api.Poly{0, 1}}
	rabbit = api.Map{P: api.Poly{-0.12256116687665361 + 0.7448617666197442i, 0, 1}, Q: one}
	newton = api.Map{P: api.Poly{1, 0, 0, 2}, Q: api.Poly{0, 0, 3}}
	bad    = api.Map{P: one}
	inf    = math.Inf(1)
	nan    = math.NaN()
)

func b(c complex128, r float64) api.Ball { return api.Ball{C: c, R: r} }

func fin(l ...complex128) bool {
	return !slices.ContainsFunc(l, func(z complex128) bool { return cplx.Kind(z) != api.CplxFinite })
}

// reckoned are Newton's numbers once more, as the chapter writes them.
func reckoned(m api.Map, n int, z complex128) (fault, slope complex128, ok bool) {
	w, s := z, complex128(1)
	for range n {
		p, _ := poly.At(m.P, w)
		q, _ := poly.At(m.Q, w)
		dp, _ := poly.SlopeAt(m.P, w)
		dq, _ := poly.SlopeAt(m.Q, w)
		d := cplx.Quo(cplx.Sub(cplx.Mul(dp, q), cplx.Mul(p, dq)), cplx.Mul(q, q))
		s = cplx.Mul(d, s)
		v, has := ratmap.At(m, api.Point{Z: w})
		if w = v.Z; !has || v.Inf || !fin(w, d, s) {
			return 0, 0, false
		}
	}
	return cplx.Sub(w, z), cplx.Sub(s, 1), true
}

func passed(m api.Map, n int, x api.Ball) bool {
	_, k, ok := reckoned(m, n, x.C)
	if !ok || k == 0 {
		return false
	}
	w, _, _ := flow.After(m, b(x.C, 0), n)
	v, s, _ := flow.After(m, x, n)
	move := ball.Quo(ball.Sub(w, b(x.C, 0)), b(k, 0))
	turn := ball.Sub(b(1, 0), ball.Quo(ball.Sub(s, b(1, 0)), b(k, 0)))
	_, ok = ball.Contracts(move, turn, x.R)
	return ok && !ball.IsWhole(w) && !ball.IsWhole(v)
}

func points() []complex128 {
	return []complex128{0, 1, 2, 0.1, -0.9, 1.6, -0.6, 0.5i, -0.3 + 0.5i, 1e150, 1e-300, complex(math.Copysign(0, -1), 0)}
}

func TestP17_1(t *testing.T) {
	for _, m := range []api.Map{m, sq, inv, rabbit, newton} {
		for _, n := range []int{1, 2, 3, 6, 32} {
			for _, z := range points() {
				fault, slope, ok := reckoned(m, n, z)
				want := cplx.Sub(z, cplx.Quo(fault, slope))
				ok = ok && fin(want)
				next, s, e := Newton(m, n, z)
				if ok && (!cplx.Same(next, want) || !cplx.Same(s, slope) || e != api.OK) || !ok && (next != 0 || s != 0 || e != api.ErrLost) {
					t.Error(m, n, z, next, s, e)
				}
				x, lost := z, false
				for steps := range 20 {
					if y, e := Seek(m, n, z, steps); lost && (y != 0 || e != api.ErrLost) || !lost && (!cplx.Same(y, x) || e != api.OK) {
						t.Error(m, n, z, steps, y, e)
					}
					y, _, e := Newton(m, n, x)
					if lost = lost || e != api.OK; !lost {
						x = y
					}
				}
			}
		}
	}
	if next, slope, e := Newton(m, 1, 1); next != 2 || slope != 1 || e != api.OK {
		t.Error(next, slope, e)
	}
	if z, e := Seek(m, 2, 0.1, 64); cplx.Hi(z) > 0x1p-40 || e != api.OK {
		t.Error(z, e)
	}
	// a point that is just come to stays, though one step more would be lost
	if z, e := Seek(sq, 1, 0, api.MaxSteps); z != 0 || e != api.OK {
		t.Error(z, e)
	}
	for _, c := range []struct {
		m api.Map
		n int
		z complex128
	}{{m, 0, 1}, {m, 33, 1}, {m, -1, 1}, {bad, 1, 1}, {m, 1, complex(nan, 0)}, {m, 1, complex(0, inf)}} {
		x1, s, e1 := Newton(c.m, c.n, c.z)
		x2, e2 := Seek(c.m, c.n, c.z, 0)
		c1, e3 := Certify(c.m, c.n, c.z)
		c2, e4 := Find(c.m, c.n, c.z)
		l, e5 := All(c.m, c.n, c.z)
		if x1 != 0 || x2 != 0 || s != 0 || l != nil || !Same(c1, api.Cycle{}) || !Same(c2, c1) || e1 != api.ErrArg || e2 != api.ErrArg || e3 != api.ErrArg || e4 != api.ErrArg || e5 != api.ErrArg {
			t.Error(c, e1, e2, e3, e4, e5)
		}
		if _, e := Home(c.m, c.n, b(0, 1)); e != api.ErrArg && fin(c.z) {
			t.Error(c, e)
		}
	}
	for _, steps := range []int{-1, api.MaxSteps + 1} {
		if z, e := Seek(m, 1, 1, steps); z != 0 || e != api.ErrArg {
			t.Error(z, e)
		}
	}
}

func TestP17_2Home(t *testing.T) {
	for _, x := range []api.Ball{b(0, 0), b(0, -1), b(0, nan), ball.Whole(), b(complex(inf, 0), 1)} {
		if is, e := Home(m, 2, x); is || e != api.ErrArg {
			t.Error(x, is, e)
		}
	}
	some := 0
	for _, m := range []api.Map{m, sq, inv, rabbit, newton} {
		for _, n := range []int{1, 2, 3} {
			for _, c := range []complex128{0, 1, -1, 1.618033988749895, 0.5} {
				for _, r := range []float64{1e-12, 1e-3, 0.125, 0.5, 3} {
					is, e := Home(m, n, b(c, r))
					if is != passed(m, n, b(c, r)) || e != api.OK {
						t.Error(m, n, c, r, is, e)
					}
					if is {
						some++
					}
				}
			}
		}
	}
	if some < 5 {
		t.Error("too few pass", some)
	}
	for _, c := range []struct {
		n  int
		r  float64
		is bool
	}{{2, 0.125, true}, {1, 0.125, false}, {2, 0.5, false}} {
		if is, e := Home(m, c.n, b(0, c.r)); is != c.is || e != api.OK {
			t.Error(c, is, e)
		}
	}
}

func TestP17_3_P17_6_P17_7(t *testing.T) {
	found := map[api.Nature]int{}
	for _, m := range []api.Map{m, sq, inv, rabbit, newton} {
		for _, n := range []int{1, 2, 3, 4} {
			for _, start := range points() {
				z, e := Seek(m, n, start, 64)
				c, f := Find(m, n, start)
				if e != api.OK {
					if f != e || !Same(c, api.Cycle{}) {
						t.Error(m, n, start, f)
					}
					continue
				}
				again, h := Certify(m, n, z)
				if !Same(c, again) || f != h {
					t.Error(m, n, start)
				}
				home, has := b(0, 0), false
				if _, k, ok := reckoned(m, n, z); ok {
					w, _, _ := flow.After(m, b(z, 0), n)
					r := ball.Hi(ball.Quo(ball.Sub(w, b(z, 0)), b(k, 0))) * 2
					if r == 0 {
						r = 0x1p-60
					}
					for range 20 {
						if x := b(z, r); ball.May(x) && !has && passed(m, n, x) {
							home, has = x, true
						}
						r *= 4
					}
				}
				if !has {
					if f != api.ErrLost || !Same(c, api.Cycle{}) {
						t.Error(m, n, start, f)
					}
					continue
				}
				run, _ := flow.Run(m, home, n)
				short := false
				for k := 1; k < n; k++ {
					short = short || n%k == 0 && !ball.Apart(run.Balls[k], home)
				}
				if short {
					if f != api.ErrShort || !Same(c, api.Cycle{}) {
						t.Error(m, n, start, f)
					}
					continue
				}
				nature := api.NatureUnknown
				if ball.Hi(run.Slopes[n]) < 1 {
					nature = api.Attracting
				} else if ball.Lo(run.Slopes[n]) > 1 {
					nature = api.Repelling
				}
				found[nature]++
				if !Same(c, api.Cycle{Period: n, Home: home, Points: run.Balls[:n], Multiplier: run.Slopes[n], Nature: nature}) || f != api.OK || Check(m, c) != api.OK {
					t.Error(m, n, start, c, f, Check(m, c))
				}
			}
		}
	}
	if found[api.Attracting] < 5 || found[api.Repelling] < 5 {
		t.Error(found)
	}
	c, e := Find(m, 2, 0.1)
	if e != api.OK || c.Period != 2 || c.Nature != api.Attracting || !ball.Has(c.Points[1], -1) || !ball.Has(c.Home, 0) || !ball.Has(c.Multiplier, 0) {
		t.Error(c, e)
	}
	c, e = Find(m, 1, 2)
	if e != api.OK || c.Nature != api.Repelling || !ball.Has(c.Home, 1.618033988749895) {
		t.Error(c, e)
	}
	if c, e := Find(m, 2, 2); !Same(c, api.Cycle{}) || e != api.ErrShort {
		t.Error(c, e)
	}
	if c, e := Certify(m, 2, 5); !Same(c, api.Cycle{}) || e != api.ErrLost {
		t.Error(c, e)
	}
	if c, e := Find(inv, 1, 0); !Same(c, api.Cycle{}) || e != api.ErrLost {
		t.Error(c, e)
	}
}

func TestP17_5Check(t *testing.T) {
	good, _ := Find(m, 2, 0.1)
	rep, _ := Find(m, 1, 2)
	change := func(do func(c *api.Cycle)) api.Cycle {
		c := good
		c.Points = slices.Clone(good.Points)
		do(&c)
		return c
	}
	for i, c := range []struct {
		m api.Map
		c api.Cycle
		e api.Errno
	}{
		{m, good, api.OK}, {m, rep, api.OK}, {bad, good, api.ErrArg}, {m, api.Cycle{}, api.ErrArg}, {sq, good, api.ErrTold},
		{m, change(func(c *api.Cycle) { c.Period = 1 }), api.ErrArg},
		{m, change(func(c *api.Cycle) { c.Period = 33; c.Points = make([]api.Ball, 33) }), api.ErrArg},
		{m, change(func(c *api.Cycle) { c.Points = c.Points[:1] }), api.ErrArg},
		{m, change(func(c *api.Cycle) { c.Points[1].R = -1 }), api.ErrArg},
		{m, change(func(c *api.Cycle) { c.Home.R = nan }), api.ErrArg},
		{m, change(func(c *api.Cycle) { c.Multiplier.R = -1 }), api.ErrArg},
		{m, change(func(c *api.Cycle) { c.Home = ball.Whole() }), api.ErrTold},
		{m, change(func(c *api.Cycle) { c.Home.R = 0 }), api.ErrTold},
		{m, change(func(c *api.Cycle) { c.Points[1].R = 0; c.Points[1].C = -1.1 }), api.ErrTold},
		{m, change(func(c *api.Cycle) { c.Points[0] = b(5, 1) }), api.ErrTold},
		{m, change(func(c *api.Cycle) { c.Multiplier = b(0.5, 0.1) }), api.ErrTold},
		{m, change(func(c *api.Cycle) { c.Nature = api.Repelling }), api.ErrTold},
		{m, change(func(c *api.Cycle) { c.Nature = 7 }), api.ErrTold},
		{m, change(func(c *api.Cycle) { c.Nature = api.NatureUnknown }), api.OK},
		{m, change(func(c *api.Cycle) { c.Points[1] = b(-1, 0.5); c.Multiplier = b(0, 0.9) }), api.OK},
		{m, change(func(c *api.Cycle) { c.Multiplier = b(0, 2) }), api.ErrTold},
		{m, change(func(c *api.Cycle) { c.Multiplier = ball.Whole(); c.Nature = 0; c.Points[0] = ball.Whole() }), api.OK},
		{m, change(func(c *api.Cycle) { c.Home = rep.Home }), api.ErrTold},
		{m, api.Cycle{Period: 2, Home: rep.Home, Points: []api.Ball{ball.Whole(), ball.Whole()}, Multiplier: ball.Whole()}, api.ErrTold},
	} {
		if e := Check(c.m, c.c); e != c.e {
			t.Error(i, c.c, e)
		}
	}
}

func TestP17_4_P17_8(t *testing.T) {
	l, e := All(m, 2, 0.1, -0.9, 0.05)
	if len(l) != 1 || e != api.OK {
		t.Error(l, e)
	}
	first, _ := Find(m, 2, 0.1)
	if !Same(l[0], first) {
		t.Error(l[0])
	}
	if l, e = All(m, 1, 2, -1, 1.6, 5e200); len(l) != 2 || e != api.OK || !Unlike(l[0], l[1]) || !Unlike(l[1], l[0]) {
		t.Error(l, e)
	}
	if l, e = All(m, 1); l != nil || e != api.OK {
		t.Error(l, e)
	}
	if l, e = All(m, 1, make([]complex128, api.MaxStarts+1)...); l != nil || e != api.ErrLong {
		t.Error(l, e)
	}
	if l, e = All(m, 1, append(make([]complex128, api.MaxStarts), complex(nan, 0))...); l != nil || e != api.ErrLong {
		t.Error(l, e)
	}
	if l, e = All(m, 0, make([]complex128, api.MaxStarts+1)...); l != nil || e != api.ErrArg {
		t.Error(l, e)
	}
	if l, e = All(m, 1, 2, complex(nan, 0)); l != nil || e != api.ErrArg {
		t.Error(l, e)
	}
	a := api.Cycle{Period: 2, Home: b(0, 1), Points: []api.Ball{b(0, 1), b(5, 1)}}
	for i, c := range []struct {
		a, b api.Cycle
		is   bool
	}{{a, a, false}, {a, api.Cycle{Period: 2, Points: []api.Ball{b(3, 1), b(9, 1)}}, true}, {a, api.Cycle{Period: 2, Points: []api.Ball{b(3, 1), b(2, 1)}}, false}, {a, api.Cycle{Period: 2, Points: []api.Ball{b(3, 1), b(9, nan)}}, false}, {a, api.Cycle{Period: 3}, true}, {a, api.Cycle{Period: 2, Points: []api.Ball{b(3, 1)}}, false}, {api.Cycle{Period: 2, Home: b(0, 1)}, api.Cycle{Period: 2, Points: []api.Ball{b(3, 1), b(9, 1)}}, false}, {api.Cycle{Period: 1, Home: b(0, -1), Points: []api.Ball{b(0, 0)}}, api.Cycle{Period: 1, Points: []api.Ball{b(9, 0)}}, false}} {
		if Unlike(c.a, c.b) != c.is {
			t.Error(i)
		}
	}
	minus := math.Copysign(0, -1)
	for i, change := range []func(c *api.Cycle){func(c *api.Cycle) { c.Period++ }, func(c *api.Cycle) { c.Home.C = complex(minus, 0) }, func(c *api.Cycle) { c.Points = []api.Ball{b(0, 1), b(5, 2)} }, func(c *api.Cycle) { c.Points = c.Points[:1] }, func(c *api.Cycle) { c.Multiplier.R = minus }, func(c *api.Cycle) { c.Nature = 1 }} {
		c := a
		if change(&c); Same(a, c) || Same(c, a) || !Same(c, c) {
			t.Error(i)
		}
	}
	if !Same(api.Cycle{Home: b(0, nan)}, api.Cycle{Home: b(0, -nan), Points: []api.Ball{}}) {
		t.Error("NaNs are alike")
	}
}
