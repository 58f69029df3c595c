package flow

import (
	"math"
	"slices"
	"testing"

	"filigree/api"
	"filigree/ball"
	"filigree/gauss"
	"filigree/ratmap"
)

var (
	s  = api.Map{P: api.Poly{-1, 0, 1}, Q: api.Poly{1}}
	t1 = api.Map{P: api.Poly{1}, Q: api.Poly{0, 1}}
	u  = api.Map{P: api.Poly{0.3i, 0.5, 1}, Q: api.Poly{2, 1}}
	w  = ball.Whole()
)

func b(c complex128, r float64) api.Ball { return api.Ball{C: c, R: r} }

func cases() (l []struct {
	m api.Map
	b api.Ball
}) {
	for _, m := range []api.Map{s, t1, u} {
		for _, x := range []api.Ball{b(0, 0), b(0.1, 0.01), b(2, 0), b(-1i, 1e-5), b(0, 1), b(5, 3), w} {
			l = append(l, struct {
				m api.Map
				b api.Ball
			}{m, x})
		}
	}
	return l
}

func TestP14_1_P14_2_P14_3(t *testing.T) {
	for _, c := range cases() {
		f, e := Run(c.m, c.b, 30)
		if e != api.OK || len(f.Balls) != 31 || len(f.Slopes) != 31 || f.Balls[0] != c.b || f.Slopes[0] != b(1, 0) {
			t.Fatal(c, e)
		}
		for k := range 30 {
			image, rise := ratmap.Both(c.m, f.Balls[k])
			if f.Balls[k+1] != image || f.Slopes[k+1] != ball.Mul(rise, f.Slopes[k]) {
				t.Error(c, k)
			}
			x, y, e := Step(c.m, f.Balls[k], f.Slopes[k])
			if x != f.Balls[k+1] || y != f.Slopes[k+1] || e != api.OK {
				t.Error(c, k)
			}
			if x, y, e = After(c.m, c.b, k); x != f.Balls[k] || y != f.Slopes[k] || e != api.OK {
				t.Error(c, k)
			}
			if ball.IsWhole(f.Balls[k]) && (!ball.IsWhole(f.Balls[k+1]) || !ball.IsWhole(f.Slopes[k+1])) {
				t.Error("the whole sphere stays", c, k)
			}
			// in pieces
			rest, _, _ := After(c.m, f.Balls[k], 30-k)
			if rest != f.Balls[30] {
				t.Error("in pieces", c, k)
			}
		}
		n := 0
		for x, y := range Each(c.m, c.b) {
			if n < 31 && (x != f.Balls[n] || y != f.Slopes[n]) {
				t.Error(c, n)
			}
			n++
		}
		if n != api.MaxSteps+1 {
			t.Error(c, n)
		}
	}
	if f, e := Run(s, b(0, 0), 0); len(f.Balls) != 1 || len(f.Slopes) != 1 || e != api.OK {
		t.Error(f, e)
	}
	if x, y, e := After(t1, b(0, 1), 1); x != w || y != w || e != api.OK {
		t.Error(x, y, e)
	}
	m := api.Map{P: api.Poly{-1, 0, 1}, Q: api.Poly{1}}
	seq := Each(m, b(2, 0))
	m.P[0] = 7
	for x := range seq {
		if x.C != 2 {
			if x.C != 3 {
				t.Error("kept", x)
			}
			break
		}
	}
}

func TestErrors(t *testing.T) {
	zero := api.Ball{}
	for _, c := range []struct {
		m api.Map
		b api.Ball
	}{{api.Map{}, b(0, 0)}, {s, b(0, -1)}, {s, b(complex(math.NaN(), 0), 0)}} {
		x1, y1, e1 := Step(c.m, c.b, b(1, 0))
		f, e2 := Run(c.m, c.b, -1)
		x2, y2, e3 := After(c.m, c.b, 9999)
		k, x3, e4 := Until(c.m, c.b, -1, nil)
		if Check(c.m, c.b) != api.ErrArg || e1 != api.ErrArg || e2 != api.ErrArg || e3 != api.ErrArg || e4 != api.ErrArg || x1 != zero || y1 != zero || x2 != zero || y2 != zero || x3 != zero || k != 0 || f.Balls != nil || f.Slopes != nil {
			t.Error(c, e1, e2, e3, e4)
		}
		for range Each(c.m, c.b) {
			t.Error("tells something")
		}
	}
	if _, _, e := Step(s, b(0, 0), b(0, -1)); e != api.ErrArg {
		t.Error(e)
	}
	for _, n := range []int{-1, api.MaxSteps + 1, math.MinInt, math.MaxInt} {
		_, e1 := Run(s, b(0, 0), n)
		_, _, e2 := After(s, b(0, 0), n)
		_, _, e3 := Until(s, b(0, 0), n, nil)
		if e1 != api.ErrSteps || e2 != api.ErrSteps || e3 != api.ErrSteps {
			t.Error(n, e1, e2, e3)
		}
	}
	if _, _, e := Until(s, b(0, 0), 0, nil); e != api.ErrNil {
		t.Error(e)
	}
}

func TestP14_4(t *testing.T) {
	k, x, e := Until(s, b(2, 0), 10, func(k int, b api.Ball) bool { return ball.Lo(b) > 50 })
	if k != 3 || math.Abs(real(x.C)-63) > 1e-9 || e != api.OK {
		t.Error(k, x, e)
	}
	for _, c := range cases() {
		f, _ := Run(c.m, c.b, 20)
		var asked []api.Ball
		k, x, e := Until(c.m, c.b, 20, func(k int, b api.Ball) bool {
			if k != len(asked) {
				t.Error(k)
			}
			asked = append(asked, b)
			return false
		})
		if k != 0 || x != (api.Ball{}) || e != api.ErrTold || !slices.Equal(asked, f.Balls) {
			t.Error(c, k, x, e)
		}
		k, x, e = Until(c.m, c.b, 20, func(k int, b api.Ball) bool { return k >= 7 })
		if k != 7 || x != f.Balls[7] || e != api.OK {
			t.Error(c, k, x, e)
		}
		if k, x, e = Until(c.m, c.b, 0, func(int, api.Ball) bool { return true }); k != 0 || x != c.b || e != api.OK {
			t.Error(c, k, x, e)
		}
	}
}

func TestP14_5_P14_8(t *testing.T) {
	for _, c := range cases() {
		if ball.IsWhole(c.b) || len(c.m.Q) > 1 {
			continue
		}
		for _, way := range []complex128{0, 1, -1i, 0.5 + 0.5i} {
			x, _ := gauss.Complex(c.b.C + way*complex(c.b.R, 0))
			if !ball.Holds(c.b, x) {
				continue
			}
			f, _ := Run(c.m, c.b, 6)
			inner, _ := gauss.Near(x)
			g, _ := Run(c.m, b(inner, 0), 6)
			rise, _ := gauss.Complex(1)
			for k := range 6 {
				if !ball.Holds(f.Balls[k], x) || !ball.Holds(f.Slopes[k], rise) {
					t.Error(c, way, k)
				}
				if ball.Apart(f.Balls[k], g.Balls[k]) {
					t.Error("a point in it", c, way, k)
				}
				two, _ := gauss.Add(x, x)
				rise, _ = gauss.Mul(rise, two)
				over, _, e := ratmap.Exact(c.m, x)
				if x = over; e != api.OK {
					break
				}
			}
		}
	}
}
