package orbit

import (
	"math"
	"slices"
	"testing"

	"filigree/api"
	"filigree/bits"
	"filigree/ratmap"
)

var (
	s   = api.Map{P: api.Poly{-1, 0, 1}, Q: api.Poly{1}}
	t2  = api.Map{P: api.Poly{1}, Q: api.Poly{0, 0, 1}}
	h   = api.Map{P: api.Poly{0, 0, 1}, Q: api.Poly{1}}
	g   = api.Map{P: api.Poly{1, 1}, Q: api.Poly{1}}
	one = api.Map{P: api.Poly{0, 1}, Q: api.Poly{0, 1}}
	inf = api.Point{Inf: true}
)

func z(x complex128) api.Point { return api.Point{Z: x} }

func like(a, b []api.Point) bool { return slices.EqualFunc(a, b, ratmap.Like) }

func TestP13_1Run(t *testing.T) {
	for _, c := range []struct {
		m    api.Map
		p    api.Point
		most int
		want []api.Point
		end  api.Ending
		from int
	}{{t2, z(0), 10, []api.Point{z(0), inf}, api.Round, 0}, {g, z(0), 3, []api.Point{z(0), z(1), z(2), z(3)}, api.Spent, 0}, {g, z(0), 0, []api.Point{z(0)}, api.Spent, 0}, {one, z(0), 5, []api.Point{z(0)}, api.Lost, 0}, {one, z(0), 0, []api.Point{z(0)}, api.Spent, 0}, {one, z(5), 3, []api.Point{z(5), z(1)}, api.Round, 1}, {one, z(5), 1, []api.Point{z(5), z(1)}, api.Spent, 0}, {h, inf, 9, []api.Point{inf}, api.Round, 0}, {h, inf, 0, []api.Point{inf}, api.Spent, 0}} {
		o, e := Run(c.m, c.p, c.most)
		if !like(o.Points, c.want) || o.End != c.end || o.From != c.from || e != api.OK {
			t.Error(c, o, e)
		}
	}
	// both noughts are unlike
	o, _ := Run(h, z(complex(math.Copysign(0, -1), 0)), 9)
	if len(o.Points) < 2 || o.End != api.Round {
		t.Error(o)
	}
	o, e := Run(s, z(0), 10)
	if e != api.OK || o.End != api.Round || len(Cycle(o)) != 2 || len(o.Points)-o.From != 2 {
		t.Error(o)
	}
	o, _ = Run(h, z(0.5), 4096)
	if o.End != api.Round || o.Points[1].Z != 0.25 || o.Points[len(o.Points)-1].Z != 0 || o.From != len(o.Points)-1 {
		t.Error(o)
	}
	long, e := Run(g, z(0), api.MaxSteps)
	if len(long.Points) != api.MaxSteps+1 || long.End != api.Spent || e != api.OK {
		t.Error(len(long.Points), long.End, e)
	}
}

func TestWrong(t *testing.T) {
	bad := api.Map{P: api.Poly{1}}
	for _, c := range []struct {
		m     api.Map
		p     api.Point
		steps int
	}{{bad, z(0), 1}, {h, z(complex(math.NaN(), 0)), 1}, {h, api.Point{Z: 1, Inf: true}, 1}, {h, z(0), -1}, {h, z(0), api.MaxSteps + 1}, {h, z(0), math.MinInt}} {
		o, e1 := Run(c.m, c.p, c.steps)
		n, far, e2 := Far(c.m, c.p, 1, c.steps)
		p, ok, e3 := Last(c.m, c.p, c.steps)
		if o.Points != nil || o.End != 0 || n != 0 || far || p != (api.Point{}) || ok || e1 != api.ErrArg || e2 != api.ErrArg || e3 != api.ErrArg {
			t.Error(c, e1, e2, e3)
		}
		if c.steps == 1 {
			for n, p := range Each(c.m, c.p) {
				t.Error(n, p)
			}
		}
	}
	for _, r := range []float64{math.NaN(), -1, math.Inf(-1)} {
		if n, far, e := Far(h, z(2), r, 1); n != 0 || far || e != api.ErrArg {
			t.Error(r, n, far, e)
		}
	}
}

func TestP13_2_P13_6(t *testing.T) {
	for _, m := range []api.Map{s, t2, h, g, one, {P: api.Poly{0.3i, 0, 1}, Q: api.Poly{2, 1}}} {
		for _, p := range []api.Point{z(0), z(0.5), z(1i), inf, z(-0.3 + 0.2i)} {
			all, e := Run(m, p, api.MaxSteps)
			if e != api.OK {
				t.Fatal(e)
			}
			var each []api.Point
			for n, q := range Each(m, p) {
				if n != len(each) {
					t.Error(n)
				}
				each = append(each, q)
			}
			if all.End == api.Lost && !like(all.Points, each) || all.End != api.Lost && len(each) != api.MaxSteps+1 {
				t.Error(m, p, len(each), all.End)
			}
			for i, q := range all.Points[1:] {
				if v, ok := ratmap.At(m, all.Points[i]); !ok || !ratmap.Like(v, q) {
					t.Error(m, p, i)
				}
			}
			for _, n := range []int{0, 1, 2, 7, 100, 4096} {
				part, _ := Run(m, p, n)
				if !like(part.Points, all.Points[:min(n+1, len(all.Points))]) {
					t.Error(m, p, n)
				}
				last, ok, e := Last(m, p, n)
				if e != api.OK || ok != (n < len(each)) || ok && !ratmap.Like(last, each[n]) || !ok && last != (api.Point{}) {
					t.Error(m, p, n, last, ok)
				}
				if c := Cycle(all); len(c) > 0 && n >= all.From && !ratmap.Like(last, c[(n-all.From)%len(c)]) {
					t.Error(m, p, n, last)
				}
			}
			if c := Cycle(all); len(c) > 0 {
				again, _ := Run(m, c[0], api.MaxSteps)
				if again.End != api.Round || again.From != 0 || !like(again.Points, c) {
					t.Error(m, p, again)
				}
			}
		}
	}
	n := 0
	for range Each(g, z(0)) {
		if n++; n == 3 {
			break
		}
	}
	m := api.Map{P: api.Poly{1, 1}, Q: api.Poly{1}}
	seq := Each(m, z(0))
	m.P[0] = 5
	for n, q := range seq {
		if n == 1 && q.Z != 1 {
			t.Error("kept", q)
		}
	}
}

func TestP13_3Cycle(t *testing.T) {
	l := []api.Point{z(1), z(2), inf}
	c := Cycle(api.Orbit{Points: l, End: api.Round, From: 1})
	if !like(c, l[1:]) {
		t.Error(c)
	}
	if c[0] = z(9); l[1] != z(2) {
		t.Error("shares its memory")
	}
	for _, o := range []api.Orbit{{}, {Points: l, End: api.Spent}, {Points: l, End: api.Lost}, {Points: l, End: api.Round, From: 3}, {Points: l, End: api.Round, From: -1}, {Points: l, End: 9}, {End: api.Round}} {
		if c := Cycle(o); len(c) != 0 {
			t.Error(o, c)
		}
	}
}

func TestP13_4_P13_5(t *testing.T) {
	for _, c := range []struct {
		m    api.Map
		p    api.Point
		r    float64
		most int
		n    int
		far  bool
	}{{h, z(2), 1000, 100, 4, true}, {h, z(0.5), 1, 100, 0, false}, {h, z(2), 2, 0, 0, true}, {h, z(2), bits.Up(2), 0, 0, false}, {h, z(2), bits.Up(2), 1, 1, true}, {h, inf, math.Inf(1), 0, 0, true}, {h, z(2), math.Inf(1), 4096, 10, true}, {h, z(2), math.Inf(1), 9, 0, false}, {one, z(0), 1, 5, 0, false}, {h, z(0), 0, 5, 0, true}, {h, z(0), math.Copysign(0, -1), 5, 0, true}, {g, z(0), 4096, 4096, 4096, true}, {h, z(complex(math.Sqrt2/2, math.Sqrt2/2)), 1, 0, 0, false}} {
		if n, far, e := Far(c.m, c.p, c.r, c.most); n != c.n || far != c.far || e != api.OK {
			t.Error(c, n, far, e)
		}
	}
	if p, ok, e := Last(g, z(0), 5); p != z(5) || !ok || e != api.OK {
		t.Error(p, ok, e)
	}
	if p, ok, e := Last(one, z(0), 1); p != (api.Point{}) || ok || e != api.OK {
		t.Error(p, ok, e)
	}
}
