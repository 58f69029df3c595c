package status

import (
	"math"
	"math/rand"
	"slices"
	"testing"

	"filigree/api"
	"filigree/ball"
	"filigree/bits"
	"filigree/cycles"
	"filigree/escape"
	"filigree/flow"
	"filigree/orbit"
	"filigree/poly"
	"filigree/roots"
	"filigree/trap"
)

var (
	one    = api.Poly{1}
	m      = api.Map{P: api.Poly{-1, 0, 1}, Q: one}
	sq     = api.Map{P: api.Poly{0, 0, 1}, Q: one}
	newton = api.Map{P: api.Poly{1, 0, 0, 2}, Q: api.Poly{0, 0, 3}}
	bad    = api.Map{P: one}
	nan    = math.NaN()
	none   = api.Witness{}
)

func b(c complex128, r float64) api.Ball { return api.Ball{C: c, R: r} }

func around(m api.Map, z complex128, n int) api.Trap {
	t, e := trap.Around(m, z, n)
	if e != api.OK {
		panic(e)
	}
	return t
}

func judge(m api.Map, steps int, traps ...api.Trap) *Judge {
	j, e := New(m, steps, traps...)
	if e != api.OK {
		panic(e)
	}
	return j
}

func TestP19_1(t *testing.T) {
	x := around(m, 0, 2)
	traps := []api.Trap{x}
	own := api.Map{P: slices.Clone(m.P), Q: slices.Clone(one)}
	j, e := New(own, 100, traps...)
	own.P[0], traps[0] = 9, api.Trap{}
	if e != api.OK || !poly.Same(j.Map().P, m.P) || !slices.Equal(j.Traps(), []api.Trap{x}) || j.Steps() != 100 {
		t.Error("what it stands on", e)
	}
	j.Map().P[0] = 7
	j.Traps()[0] = api.Trap{}
	if j.Map().P[0] != -1 || j.Traps()[0] != x {
		t.Error("its own memory is handed out")
	}
	want, _ := escape.Radius(m)
	if r, ok := j.Radius(); r != want || !ok {
		t.Error(r, ok)
	}
	if r, ok := judge(newton, 0).Radius(); r != 0 || ok {
		t.Error(r, ok)
	}
	wrong := x
	wrong.Slope = 0.9
	for _, c := range []struct {
		m     api.Map
		steps int
		traps []api.Trap
		e     api.Errno
	}{{bad, 1, nil, api.ErrArg}, {m, -1, nil, api.ErrArg}, {m, 4097, slices.Repeat([]api.Trap{wrong}, 65), api.ErrArg}, {m, 5000, nil, api.ErrArg}, {m, 9, slices.Repeat([]api.Trap{wrong}, 65), api.ErrLong}, {m, 9, []api.Trap{x, wrong}, api.ErrTrap}, {m, 9, []api.Trap{{Ball: b(0, 1), N: 1, Slope: 0.5}}, api.ErrTrap}} {
		if j, e := New(c.m, c.steps, c.traps...); j != nil || e != c.e {
			t.Error(c.steps, e)
		}
	}
	if _, e := New(m, api.MaxSteps, slices.Repeat([]api.Trap{x}, 64)...); e != api.OK {
		t.Error(e)
	}
	for _, j := range []*Judge{nil, {}} {
		r, ok := j.Radius()
		w, e1 := j.Witness(b(0, -1))
		l, e2 := j.Witnesses(b(0, -1))
		if j.Map().P != nil || j.Traps() != nil || j.Steps() != 0 || r != 0 || ok || w != none || l != nil || e1 != api.ErrNil || e2 != api.ErrNil || j.Check(b(0, -1), none) != api.ErrNil || j.Tell(b(5, 0)) != api.Unknown {
			t.Error("a judge that is none")
		}
	}
}

// shown is what the balls of a flow show first, as the chapter writes it.
func shown(m api.Map, traps []api.Trap, steps int, x api.Ball) api.Witness {
	f, _ := flow.Run(m, x, steps)
	r, e := escape.Radius(m)
	for k, y := range f.Balls {
		if is, _ := escape.Beyond(y, r); e == api.OK && is {
			return api.Witness{Told: api.Out, Step: k}
		}
		for i, trap := range traps {
			if ball.Inside(y, trap.Ball) {
				return api.Witness{Told: api.In, Step: k, Trap: i}
			}
		}
	}
	return none
}

func TestP19_2_P19_3_P19_7_P19_9(t *testing.T) {
	rnd := rand.New(rand.NewSource(25))
	told := map[api.Told]int{}
	for _, c := range []struct {
		m     api.Map
		traps []api.Trap
	}{{m, []api.Trap{around(m, -1, 2), around(m, 0, 2)}}, {sq, nil}, {newton, []api.Trap{around(newton, 1, 1), around(newton, complex(-0.5, math.Sqrt(3)/2), 1)}}} {
		j := judge(c.m, 40, c.traps...)
		more := judge(c.m, 200, c.traps...)
		wider := judge(c.m, 40, append(slices.Clone(c.traps), c.traps...)...)
		bare := judge(c.m, 40)
		var balls []api.Ball
		for range 150 {
			balls = append(balls, b(complex(rnd.NormFloat64()*1.5, rnd.NormFloat64()), 0.01*rnd.Float64()))
		}
		balls = append(balls, ball.Whole(), b(0, 0), b(1e300, 1), b(0, 100))
		l, e := j.Witnesses(balls...)
		if e != api.OK || len(l) != len(balls) {
			t.Fatal(e)
		}
		for i, x := range balls {
			w, e := j.Witness(x)
			if w != l[i] || w != shown(c.m, c.traps, 40, x) || e != api.OK || j.Tell(x) != w.Told {
				t.Error(x, w, e)
			}
			told[w.Told]++
			if w != none && j.Check(x, w) != api.OK {
				t.Error("not taken", x, w)
			}
			if v, _ := more.Witness(x); w != none && v != w {
				t.Error("more steps", x, w, v)
			}
			if v, _ := wider.Witness(x); w != none && v != w {
				t.Error("more traps", x, w, v)
			}
			if v, _ := bare.Witness(x); w.Told == api.Out && v != w || !Agree(v.Told, w.Told) {
				t.Error("fewer traps", x, w, v)
			}
			f, _ := flow.Run(c.m, x, 12)
			r, escapes := j.Radius()
			for k, y := range f.Balls {
				beyond, _ := escape.Beyond(y, r)
				if e := j.Check(x, api.Witness{Told: api.Out, Step: k}); (e == api.OK) != (escapes && beyond) || e != api.OK && e != api.ErrTold {
					t.Error("Out", x, k, e)
				}
				for n, trap := range c.traps {
					if e := j.Check(x, api.Witness{Told: api.In, Step: k, Trap: n}); (e == api.OK) != ball.Inside(y, trap.Ball) || e != api.OK && e != api.ErrTold {
						t.Error("In", x, k, e)
					}
				}
			}
		}
	}
	if told[api.In] < 10 || told[api.Out] < 30 || told[api.Unknown] < 5 {
		t.Error(told)
	}
	j := judge(m, 100, around(m, 0, 2))
	for _, c := range []struct {
		x    api.Ball
		told api.Told
		step int // -1: whichever
	}{{b(5, 0.5), api.Out, 0}, {b(0, 0.001), api.In, 0}, {b(0.5, 0.001), api.In, -1}, {ball.Whole(), api.Unknown, 0}, {b(1.618, 0.1), api.Unknown, 0}} {
		if w, e := j.Witness(c.x); w.Told != c.told || c.step >= 0 && w.Step != c.step || e != api.OK {
			t.Error(c, w, e)
		}
	}
	for _, x := range []api.Ball{b(0, -1), b(complex(nan, 0), 0)} {
		w, e1 := j.Witness(x)
		l, e2 := j.Witnesses(b(0, 0), x)
		if w != none || l != nil || e1 != api.ErrArg || e2 != api.ErrArg || j.Tell(x) != api.Unknown || j.Check(x, api.Witness{Told: api.Out}) != api.ErrArg {
			t.Error(x, e1, e2)
		}
	}
	if l, e := j.Witnesses(); len(l) != 0 || e != api.OK {
		t.Error(l, e)
	}
	for _, c := range []struct {
		x api.Ball
		w api.Witness
		e api.Errno
	}{{b(5, 0.5), api.Witness{Told: api.Out}, 0}, {b(5, 0.5), api.Witness{Told: api.In}, api.ErrTold}, {b(5, 0.5), api.Witness{Told: api.Out, Trap: 1}, api.ErrArg}, {b(5, 0.5), none, api.ErrArg}, {b(5, 0.5), api.Witness{Told: 3}, api.ErrArg}, {b(0, 0), api.Witness{Told: api.In, Trap: 1}, api.ErrArg}, {b(0, 0), api.Witness{Told: api.In, Trap: -1}, api.ErrArg}, {b(0, 0), api.Witness{Told: api.In, Step: -1}, api.ErrArg}, {b(0, 0), api.Witness{Told: api.In, Step: 4097}, api.ErrArg}, {b(0, 0), api.Witness{Told: api.In, Step: 4096}, 0}, {b(0, 0), api.Witness{Told: api.In, Step: 1}, api.ErrTold}} {
		if e := j.Check(c.x, c.w); e != c.e {
			t.Error(c, e)
		}
	}
	if e := judge(newton, 9).Check(b(1e300, 0), api.Witness{Told: api.Out}); e != api.ErrTold {
		t.Error("no escape radius", e)
	}
}

func TestP19_4_P19_8(t *testing.T) {
	for a := api.Told(0); a < 5; a++ {
		for b := api.Told(0); b < 5; b++ {
			if want := !(a == api.In && b == api.Out || a == api.Out && b == api.In); Agree(a, b) != want {
				t.Error(a, b)
			}
		}
	}
	rnd := rand.New(rand.NewSource(26))
	j, k := judge(m, 80, around(m, 0, 2)), judge(m, 20, around(m, -1, 2))
	for range 300 {
		x := b(complex(rnd.NormFloat64(), rnd.NormFloat64()/2), 0.05*rnd.Float64())
		y := b(x.C+complex(x.R*(rnd.Float64()-0.5), 0), x.R*0.3)
		if !ball.Apart(x, y) && (!Agree(j.Tell(x), k.Tell(y)) || !Agree(k.Tell(x), j.Tell(y))) {
			t.Error(x, y)
		}
	}
}

func TestP19_5Critical(t *testing.T) {
	for _, c := range []struct {
		m api.Map
		p api.Poly
	}{{m, api.Poly{0, 2}}, {api.Map{P: api.Poly{1, 2, 3, 4i}, Q: one}, api.Poly{2, 6, 12i}}, {api.Map{P: api.Poly{1, 0, 0, 2}, Q: api.Poly{0, 0, 3}}, api.Poly{0, -6, 0, 0, 6}}, {api.Map{P: api.Poly{0, 0, 1}, Q: api.Poly{2}}, api.Poly{0, 4}}} {
		want, _ := roots.Guess(c.p, api.RootSteps)
		if l, e := Critical(c.m); !slices.Equal(l, want) || e != api.OK {
			t.Error(c, l, want, e)
		}
	}
	long := append(make(api.Poly, 16), 1)
	for _, c := range []struct {
		m api.Map
		e api.Errno
	}{{bad, api.ErrArg}, {api.Map{P: api.Poly{0, 1}, Q: one}, 0}, {api.Map{P: api.Poly{3}, Q: one}, 0}, {api.Map{P: api.Poly{0, 1}, Q: api.Poly{0, 1}}, 0}, {api.Map{P: long, Q: api.Poly{1, 1, 1}}, api.ErrTold}, {api.Map{P: api.Poly{0, 0, math.MaxFloat64}, Q: one}, api.ErrTold}} {
		if l, e := Critical(c.m); len(l) != 0 || e != c.e {
			t.Error(c, l, e)
		}
	}
}

func TestP19_6_P19_10Seek(t *testing.T) {
	for _, c := range []struct {
		m     api.Map
		most  int
		seeds []complex128
		n     int
	}{{m, 2, nil, 1}, {m, 1, nil, 0}, {sq, 3, nil, 1}, {newton, 1, nil, 3}, {newton, 1, []complex128{2, 5i, -1 - 1i}, 3}, {api.Map{P: api.Poly{0.3i, 1}, Q: api.Poly{2}}, 2, nil, 0}, {api.Map{P: api.Poly{0.3i, 1}, Q: api.Poly{2}}, 2, []complex128{1}, 1}, {api.Map{P: api.Poly{1, 0, 1}, Q: one}, 4, nil, 0}} {
		l, e := Seek(c.m, c.most, c.seeds...)
		if e != api.OK || len(l) != c.n && c.m.Q[0] != 0 {
			t.Error(c, l, e)
		}
		points, _ := Critical(c.m)
		var starts []complex128
		for _, z := range append(points, c.seeds...) {
			if p, ok, _ := orbit.Last(c.m, api.Point{Z: z}, api.SeekSteps); ok && !p.Inf {
				starts = append(starts, p.Z)
			}
		}
		var want []api.Trap
		for n := 1; n <= c.most; n++ {
			found, _ := cycles.All(c.m, n, starts...)
			for _, x := range found {
				if x, e := trap.About(c.m, x); e == api.OK {
					want = append(want, x)
				}
			}
		}
		want = slices.DeleteFunc(want, func(x api.Trap) bool { return trap.Check(c.m, x) != api.OK })
		if !slices.Equal(l, want) {
			t.Error(c, l, want)
		}
		j, e := New(c.m, 9, l...)
		if e != api.OK {
			t.Error(c, e)
		}
		for _, x := range l {
			if w, e := j.Witness(x.Ball); w.Told != api.In || w.Step != 0 || e != api.OK {
				t.Error(c, w, e)
			}
		}
	}
	for _, c := range []struct {
		m     api.Map
		most  int
		seeds []complex128
		e     api.Errno
	}{{bad, 1, nil, api.ErrArg}, {m, 0, nil, api.ErrArg}, {m, 33, nil, api.ErrArg}, {m, 1, []complex128{complex(0, nan)}, api.ErrArg}, {m, 1, make([]complex128, 513), api.ErrLong}, {m, 1, append(make([]complex128, 513), complex(bits.Up(math.MaxFloat64), 0)), api.ErrArg}} {
		if l, e := Seek(c.m, c.most, c.seeds...); l != nil || e != c.e {
			t.Error(c.most, l, e)
		}
	}
	seeds := make([]complex128, 4, 10)
	if Seek(m, 1, seeds...); !slices.Equal(seeds[:10], make([]complex128, 10)) {
		t.Error("what is handed in is changed")
	}
}
