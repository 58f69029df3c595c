package cert

import (
	"math"
	"math/rand"
	"slices"
	"strings"
	"testing"

	"filigree/api"
	"filigree/ball"
	"filigree/escape"
	"filigree/status"
	"filigree/trap"
)

var (
	one  = api.Poly{1}
	m    = api.Map{P: api.Poly{-1, 0, 1}, Q: one}
	sq   = api.Map{P: api.Poly{0, 0, 1}, Q: one}
	nan  = math.NaN()
	inf  = math.Inf(1)
	none = api.Cert{}
)

func b(c complex128, r float64) api.Ball { return api.Ball{C: c, R: r} }

func judge(m api.Map, steps int, z complex128, n int) *status.Judge {
	x, e := trap.Around(m, z, n)
	if e != api.OK {
		panic(e)
	}
	j, e := status.New(m, steps, x)
	if e != api.OK {
		panic(e)
	}
	return j
}

func made() api.Cert {
	r := rand.New(rand.NewSource(27))
	balls := []api.Ball{b(4, 0), b(0, 0), b(1.7, 0), ball.Whole(), b(1.618, 0.1)}
	for range 40 {
		balls = append(balls, b(complex(r.NormFloat64(), r.NormFloat64()), 0.01*r.Float64()))
	}
	c, e := Make(judge(m, 50, 0, 2), balls...)
	if e != api.OK {
		panic(e)
	}
	return c
}

func change(c api.Cert, do func(c *api.Cert)) api.Cert {
	c = own(c)
	do(&c)
	return c
}

func TestP20_1_P20_6(t *testing.T) {
	j := judge(m, 50, 0, 2)
	balls := []api.Ball{b(4, 0), b(1.618, 0.1), b(0, 0), b(5, 0.5)}
	c, e := Make(j, balls...)
	if e != api.OK || len(c.Claims) != 3 || c.Claims[0].Ball != balls[0] || c.Claims[1].Ball != balls[2] || c.Claims[0].Witness.Told != api.Out || c.Claims[1].Witness != (api.Witness{Told: api.In}) || !slices.Equal(c.Traps, j.Traps()) || !slices.Equal(c.Map.P, m.P) || !slices.Equal(c.Map.Q, m.Q) {
		t.Error(c, e)
	}
	for _, k := range made().Claims {
		if w, _ := j.Witness(k.Ball); w != k.Witness || w.Told == api.Unknown {
			t.Error(k, w)
		}
	}
	if at, e := Check(made()); at != 0 || e != api.OK {
		t.Error(at, e)
	}
	for _, c := range []struct {
		j *status.Judge
		l []api.Ball
		e api.Errno
	}{{nil, []api.Ball{b(0, -1)}, api.ErrNil}, {&status.Judge{}, nil, api.ErrNil}, {j, append(make([]api.Ball, api.MaxClaims), b(0, nan)), api.ErrArg}, {j, make([]api.Ball, api.MaxClaims+1), api.ErrLong}} {
		if x, e := Make(c.j, c.l...); !Same(x, none) || e != c.e {
			t.Error(e)
		}
	}
	if c, e := Make(j); len(c.Claims) != 0 || len(c.Traps) != 1 || e != api.OK {
		t.Error(c, e)
	}
}

func TestP20_2(t *testing.T) {
	good := made()
	in := slices.IndexFunc(good.Claims, func(k api.Claim) bool { return k.Witness.Told == api.In && k.Witness.Step > 0 })
	for i, c := range []struct {
		c  api.Cert
		at int
		e  api.Errno
	}{
		{good, 0, api.OK},
		{api.Cert{Map: m}, 0, api.OK},
		{none, 0, api.ErrCertMap},
		{change(good, func(c *api.Cert) { c.Map.Q = nil; c.Traps = make([]api.Trap, 65) }), 0, api.ErrCertMap},
		{change(good, func(c *api.Cert) { c.Traps = make([]api.Trap, 65) }), 0, api.ErrLong},
		{change(good, func(c *api.Cert) { c.Claims = make([]api.Claim, api.MaxClaims+1); c.Traps[0].N = 0 }), 0, api.ErrLong},
		{change(good, func(c *api.Cert) { c.Traps = append(c.Traps, api.Trap{}); c.Claims[0].Witness.Step = 0 }), 1, api.ErrCertTrap},
		{change(good, func(c *api.Cert) { c.Claims[0] = api.Claim{Ball: b(2, 0), Witness: api.Witness{Told: api.Out}} }), 0, api.ErrClaim},
		{change(good, func(c *api.Cert) { c.Claims[1].Witness.Told = api.Unknown }), 1, api.ErrClaim},
		{change(good, func(c *api.Cert) { c.Claims[1].Witness.Told = 3 }), 1, api.ErrClaim},
		{change(good, func(c *api.Cert) { c.Claims[0].Witness.Trap = 1 }), 0, api.ErrClaim},
		{change(good, func(c *api.Cert) { c.Claims[in].Witness.Trap = 1 }), in, api.ErrClaim},
		{change(good, func(c *api.Cert) { c.Claims[in].Witness.Trap = -1 }), in, api.ErrClaim},
		{change(good, func(c *api.Cert) { c.Claims[in].Witness.Step-- }), in, api.ErrClaim},
		{change(good, func(c *api.Cert) { c.Claims[in].Witness.Step = -1 }), in, api.ErrClaim},
		{change(good, func(c *api.Cert) { c.Claims[in].Witness.Step = 5000 }), in, api.ErrClaim},
		{change(good, func(c *api.Cert) { c.Claims[1].Ball.R = -1 }), 1, api.ErrClaim},
		{change(good, func(c *api.Cert) { c.Claims[0].Ball.R = 1.5 }), 0, api.ErrClaim},
		{change(good, func(c *api.Cert) { c.Claims = c.Claims[:1]; c.Traps = nil }), 0, api.OK},
	} {
		at, e := Check(c.c)
		if at != c.at || e != c.e {
			t.Error(i, at, e)
		}
		n := 0
		for at, f := range Each(c.c) {
			k := c.c.Claims[at]
			r, _ := escape.Radius(c.c.Map)
			want := api.ErrClaim
			if k.Witness.Told == api.Out && k.Witness.Trap == 0 && escape.Check(c.c.Map, k.Ball, k.Witness.Step) == api.OK && r > 0 {
				want = api.OK
			}
			if k.Witness.Told == api.In && k.Witness.Trap == 0 && len(c.c.Traps) > 0 && trap.Comes(c.c.Map, c.c.Traps[0], k.Ball, k.Witness.Step) == api.OK {
				want = api.OK
			}
			if at != n || f != want {
				t.Error(i, at, f)
			}
			n++
		}
		if told := e == api.OK || e == api.ErrClaim; told && n != len(c.c.Claims) || !told && n != 0 {
			t.Error(i, n)
		}
	}
	seq := Each(good)
	copyOf := own(good)
	for at, e := range seq {
		good.Claims[len(good.Claims)-1].Witness.Told = 9
		if e != api.OK {
			t.Error("kept", at)
		}
	}
	n := 0
	for range Each(copyOf) {
		if n++; n == 2 {
			break
		}
	}
	if n != 2 {
		t.Error("left early")
	}
}

func TestP20_3_P20_7(t *testing.T) {
	good := made()
	for i, k := range good.Claims {
		told, at, e := Told(good, k.Ball)
		first := slices.IndexFunc(good.Claims, func(l api.Claim) bool { return ball.Inside(k.Ball, l.Ball) })
		if at != first || told != good.Claims[first].Witness.Told || e != api.OK || told != k.Witness.Told {
			t.Error(i, told, at, e)
		}
	}
	for _, c := range []struct {
		c    api.Cert
		b    api.Ball
		told api.Told
		at   int
		e    api.Errno
	}{{good, b(0, 0), api.In, 1, 0}, {good, b(100, 1), api.Unknown, 0, 0}, {good, ball.Whole(), api.Unknown, 0, 0}, {good, b(0, -1), api.Unknown, 0, api.ErrArg}, {none, b(0, -1), api.Unknown, 0, api.ErrCertMap}, {change(good, func(c *api.Cert) { c.Claims[1].Witness.Told = 0 }), b(0, 0), api.Unknown, 0, api.ErrClaim}, {change(good, func(c *api.Cert) { c.Traps = append(c.Traps, api.Trap{}) }), b(0, 0), api.Unknown, 0, api.ErrCertTrap}} {
		if told, at, e := Told(c.c, c.b); told != c.told || at != c.at || e != c.e {
			t.Error(c.b, told, at, e)
		}
	}
}

func TestP20_4_P20_8(t *testing.T) {
	good := made()
	n := len(good.Claims)
	for _, places := range [][]int{{1, 0}, {0, 0}, {n}, {-1}, {0, math.MaxInt}, {math.MinInt}} {
		if c, e := Pick(good, places...); !Same(c, none) || e != api.ErrArg {
			t.Error(places, e)
		}
	}
	var some, others []int
	for i := range n {
		if i < 5 {
			some = append(some, i)
		} else {
			others = append(others, i)
		}
	}
	a, e := Pick(good, some...)
	c, f := Pick(good, others...)
	both, g := Join(a, c)
	if e != api.OK || f != api.OK || g != api.OK || !Same(both, good) {
		t.Error(e, f, g)
	}
	for _, x := range []api.Cert{a, c, both} {
		if at, e := Check(x); at != 0 || e != api.OK {
			t.Error(at, e)
		}
	}
	if odd, e := Pick(good, 1, 3); len(odd.Claims) != 2 || odd.Claims[1] != good.Claims[3] || e != api.OK {
		t.Error(e)
	}
	both.Claims[0].Witness.Step, both.Traps[0].N, both.Map.P[0] = 77, 9, 9
	a.Claims[1].Witness.Step = 78
	if !Same(good, made()) {
		t.Error("shares its memory")
	}
	if x, e := Pick(api.Cert{Claims: make([]api.Claim, 1)}, 0); len(x.Claims) != 1 || e != api.OK {
		t.Error("nothing is checked", e)
	}
	other, _ := Make(judge(sq, 50, 0, 1))
	minus := math.Copysign(0, -1)
	for i, x := range []api.Cert{other, change(made(), func(c *api.Cert) { c.Traps[0].Slope = 0 }), change(made(), func(c *api.Cert) { c.Traps = nil }), change(made(), func(c *api.Cert) { c.Map.P[1] = complex(minus, 0) }), change(made(), func(c *api.Cert) { c.Traps[0].Ball.C = complex(minus, 0) })} {
		if c, e := Join(made(), x); !Same(c, none) || e != api.ErrOther {
			t.Error(i, e)
		}
	}
	half := api.Cert{Claims: make([]api.Claim, api.MaxClaims/2+1)}
	if c, e := Join(half, half); !Same(c, none) || e != api.ErrLong {
		t.Error(e)
	}
	if c, e := Join(half, api.Cert{Claims: half.Claims[1:]}); len(c.Claims) != api.MaxClaims+1 && e != api.ErrLong {
		t.Error(len(c.Claims), e)
	}
	for i, do := range []func(c *api.Cert){func(c *api.Cert) { c.Claims[0].Ball.R = minus }, func(c *api.Cert) { c.Claims = c.Claims[1:] }, func(c *api.Cert) { c.Claims[0].Witness.Step++ }, func(c *api.Cert) { c.Map.Q = api.Poly{2} }} {
		if Same(change(made(), do), made()) {
			t.Error(i)
		}
	}
	weird := api.Cert{Claims: []api.Claim{{Ball: b(complex(nan, 0), 0)}}}
	if !Same(weird, api.Cert{Traps: []api.Trap{}, Claims: []api.Claim{{Ball: b(complex(-nan, 0), 0)}}}) {
		t.Error("NaNs are alike")
	}
}

func TestP20_5_P20_9(t *testing.T) {
	good := made()
	s, e := Write(good)
	back, f := Read(s)
	if e != api.OK || f != api.OK || !Same(back, good) {
		t.Error(e, f)
	}
	if len(s) != 5+49+17+1+33+4+28*len(good.Claims) {
		t.Error(len(s))
	}
	if c, at, e := Verify(s); !Same(c, good) || at != 0 || e != api.OK {
		t.Error(at, e)
	}
	bare, _ := Write(api.Cert{Map: m})
	want := "FLG\x00\x01\x03\xbf\xf0" + strings.Repeat("\x00", 30) + "\x3f\xf0" + strings.Repeat("\x00", 14) + "\x01\x3f\xf0" + strings.Repeat("\x00", 14) + "\x00" + "\x00\x00\x00\x00"
	if bare != want || len(bare) != 76 {
		t.Errorf("%q", bare)
	}
	claim, _ := Write(api.Cert{Claims: []api.Claim{{Ball: ball.Whole(), Witness: api.Witness{Told: 200, Step: 0x1234, Trap: 255}}}})
	if want := "FLG\x00\x01\x00\x00\x00\x00\x00\x00\x01" + strings.Repeat("\x00", 16) + "\x7f\xf0\x00\x00\x00\x00\x00\x00\xc8\x12\x34\xff"; claim != want {
		t.Errorf("%q", claim)
	}
	if c, e := Read(claim); len(c.Claims) != 1 || c.Claims[0].Witness.Told != 200 || e != api.OK {
		t.Error(c, e)
	}
	for i, x := range []api.Cert{{Map: api.Map{P: make(api.Poly, 18)}}, {Map: api.Map{Q: make(api.Poly, 18)}}, {Map: api.Map{P: api.Poly{complex(inf, 0)}}}, {Map: api.Map{Q: api.Poly{complex(0, nan)}}}, {Traps: make([]api.Trap, 65)}, {Traps: []api.Trap{{N: -1}}}, {Traps: []api.Trap{{N: 256}}}, {Traps: []api.Trap{{Slope: inf}}}, {Traps: []api.Trap{{Slope: nan}}}, {Traps: []api.Trap{{Ball: b(0, nan)}}}, {Traps: []api.Trap{{Ball: b(complex(inf, 0), 1)}}}, {Claims: make([]api.Claim, api.MaxClaims+1)}, {Claims: []api.Claim{{Ball: b(0, nan)}}}, {Claims: []api.Claim{{Ball: b(complex(0, inf), 0)}}}, {Claims: []api.Claim{{Witness: api.Witness{Step: -1}}}}, {Claims: []api.Claim{{Witness: api.Witness{Step: 65536}}}}, {Claims: []api.Claim{{Witness: api.Witness{Trap: 256}}}}, {Claims: []api.Claim{{Witness: api.Witness{Trap: -1}}}}} {
		if s, e := Write(x); s != "" || e != api.ErrArg {
			t.Error(i, len(s), e)
		}
	}
	for i, x := range []api.Cert{none, {Map: api.Map{P: make(api.Poly, 17), Q: api.Poly{0}}}, {Traps: make([]api.Trap, 64)}, {Traps: []api.Trap{{Ball: b(0, -inf), N: 255, Slope: -1}}}, {Claims: make([]api.Claim, api.MaxClaims)}} {
		s, e := Write(x)
		back, f := Read(s)
		if e != api.OK || f != api.OK || !Same(back, x) {
			t.Error(i, e, f)
		}
	}
	for i := range len(bare) {
		if c, e := Read(bare[:i]); !Same(c, none) || e != api.ErrBytes {
			t.Error(i, e)
		}
	}
	broken := func(at int, with string) string { return bare[:at] + with + bare[at+len(with):] }
	for i, s := range []string{"", bare + "\x00", broken(0, "G"), broken(4, "\x02"), broken(5, "\x12"), broken(6, "\x7f\xf0\x00\x00\x00\x00\x00\x00"), broken(6, "\x7f\xf8\x00\x00\x00\x00\x00\x00"), broken(71, "\x41"), broken(72, "\xff\xff\xff\xff"), broken(75, "\x01"), bare + strings.Repeat("\x00", 40)} {
		if c, e := Read(s); !Same(c, none) || e != api.ErrBytes {
			t.Error(i, e)
		}
		if c, at, e := Verify(s); !Same(c, none) || at != 0 || e != api.ErrBytes {
			t.Error(i, at, e)
		}
	}
	wrong, _ := Write(change(good, func(c *api.Cert) { c.Claims[2].Witness.Told = 0 }))
	if c, at, e := Verify(wrong); !Same(c, none) || at != 2 || e != api.ErrClaim {
		t.Error(at, e)
	}
	// whatever byte is changed: what is taken holds good
	short, _ := Pick(good, 0, 1, 2)
	s, _ = Write(short)
	for i := range len(s) {
		for _, x := range []byte{0, 1, 2, s[i] ^ 0x80, s[i] + 1} {
			c, _, e := Verify(s[:i] + string([]byte{x}) + s[i+1:])
			if e != api.OK {
				continue
			}
			for _, k := range c.Claims {
				if e := escape.Check(c.Map, k.Ball, k.Witness.Step); k.Witness.Told == api.Out && e != api.OK || k.Witness.Told != api.Out && k.Witness.Told != api.In {
					t.Error(i, k, e)
				}
			}
		}
	}
}
