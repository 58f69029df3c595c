package maps

import (
	"math"
	"math/big"
	"math/rand"
	"slices"
	"strings"
	"testing"

	"filigree/api"
	"filigree/bits"
	"filigree/gauss"
	"filigree/lang"
	"filigree/poly"
)

func g(z complex128) api.Gauss {
	x, _ := gauss.Complex(z)
	return x
}

func list(l ...complex128) []api.Gauss {
	var m []api.Gauss
	for _, z := range l {
		m = append(m, g(z))
	}
	return m
}

func zero(m api.Meaning) bool { return Same(m, api.Meaning{}) }

func TestP12_1Numbers(t *testing.T) {
	for _, c := range []struct {
		s    string
		x    float64
		just bool
		e    api.Errno
	}{{"0.5", 0.5, true, 0}, {"007.50e+01", 75, true, 0}, {"000", 0, true, 0}, {"0.1", 0.1, false, 0}, {"5e-400", 0, false, 0}, {"1e400", 0, false, api.ErrFloat}, {"-1", 0, false, api.ErrArg}, {"", 0, false, api.ErrArg}, {"1.", 0, false, api.ErrArg}, {".5", 0, false, api.ErrArg}, {"1e", 0, false, api.ErrArg}, {"1e+", 0, false, api.ErrArg}, {"1e12345", 0, false, api.ErrArg}, {"1 ", 0, false, api.ErrArg}, {" 1", 0, false, api.ErrArg}, {"z", 0, false, api.ErrArg}, {"1z", 0, false, api.ErrArg}, {"1e5e5", 0, false, api.ErrArg}, {"1e+-5", 0, false, api.ErrArg}, {"1e-+5", 0, false, api.ErrArg}, {"1.5.5", 0, false, api.ErrArg}, {"1e0000", 1, true, 0}, {"1e-0000", 1, true, 0}, {"12e-0001", 1.2, false, 0}, {"1e9999", 0, false, api.ErrLong}, {"0e5001", 0, false, api.ErrLong}, {"9007199254740993", 9007199254740992, false, 0}, {"1.25e+2", 125, true, 0}, {"0.0e5000", 0, true, 0}, {strings.Repeat("1", 4097), 0, false, api.ErrLong}, {strings.Repeat("0", 5000) + "7", 7, true, 0}, {"1E5", 0, false, api.ErrArg}, {"1_0", 0, false, api.ErrArg}, {"1e5\n", 0, false, api.ErrArg}} {
		if x, just, e := Number(c.s); !bits.Like(x, c.x) || just != c.just || e != c.e {
			t.Error(c.s, x, just, e)
		}
	}
	r := rand.New(rand.NewSource(18))
	l := []float64{0, math.Copysign(0, -1), 1, -1, 0.1, -0.25, 5e-324, math.MaxFloat64, -math.MaxFloat64, 1e22, 123456.789, 0x1p-1022}
	for range 300 {
		if x := math.Float64frombits(r.Uint64()); bits.Finite(x) {
			l = append(l, x)
		}
	}
	for _, x := range l {
		s, e := Decimal(x)
		y, ok := new(big.Rat).SetString(s)
		if e != api.OK || !ok || y.Cmp(new(big.Rat).SetFloat64(x)) != 0 || strings.Contains(s, ".") && strings.HasSuffix(s, "0") || strings.HasPrefix(s, "-0") && !strings.HasPrefix(s, "-0.") || strings.HasSuffix(s, ".") {
			t.Error(x, s, e)
		}
	}
	for _, x := range []float64{math.NaN(), math.Inf(1), math.Inf(-1)} {
		if s, e := Decimal(x); s != "" || e != api.ErrFloat {
			t.Error(x, s, e)
		}
	}
}

func TestP12_2Meanings(t *testing.T) {
	for _, c := range []struct {
		s       string
		p, q    []api.Gauss
		rounded bool
	}{{"z^2 + 0.25", list(0.25, 0, 1), list(1), false}, {"z^2 + 0.1", list(0.1, 0, 1), list(1), true}, {"(z + 1)/(z - 1)", list(1, 1), list(-1, 1), false}, {"1/z + 1/z", list(2), list(0, 1), false}, {"1/z - 1/z^2", list(0, -1, 1), list(0, 0, 0, 1), false}, {"1/z + 1/z^2", list(0, 1, 1), list(0, 0, 0, 1), false}, {"1/z^2 - 1/z", list(0, 1, -1), list(0, 0, 0, 1), false}, {"z/2", list(0, 1), list(2), false}, {"let c = i*2; z*c - -c", list(2i, 2i), list(1), false}, {"let c = 0.1; z", list(0, 1), list(1), true}, {"z^0", list(1), list(1), false}, {"z^1", list(0, 1), list(1), false}, {"(z+1)^3", list(1, 3, 3, 1), list(1), false}, {"(1/z)^3", list(1), list(0, 0, 0, 1), false}, {"(z - z + 1)*z + 0", list(0, 1), list(1), false}, {"z^2/z", list(0, 0, 1), list(0, 1), false}, {"i^3*z", list(0, -1i), list(1), false}, {"0/z + z", list(0, 0, 1), list(0, 1), false}, {"z + 0^64", list(0, 1), list(1), false}, {"2^64*z", list(0, 1<<64), list(1), false}, {"z^16", append(make([]api.Gauss, 16), g(1)), list(1), false}} {
		m, f, e := Parse(c.s)
		if f != nil || e != api.OK || !slices.Equal(m.P, c.p) || !slices.Equal(m.Q, c.q) || m.Rounded != c.rounded {
			t.Error(c.s, m, f, e)
		}
	}
	for _, c := range []struct {
		s string
		e api.Errno
	}{{"z/(z - z)", api.ErrDivisor}, {"z - z", api.ErrArg}, {"z^17", api.ErrLong}, {"z^16*z", api.ErrLong}, {"1e400*z", api.ErrFloat}, {"1e300*1e300*z", api.ErrFloat}, {"1e9999*z", api.ErrLong}, {"z/(1e300*1e300)", api.ErrFloat}, {"5e-324*5e-324", api.ErrArg}, {"z/(5e-324*5e-324)", api.ErrArg}, {"let a = 1/0; z", api.ErrDivisor}, {"let a = z^17; z/0", api.ErrLong}, {"z/0*z^17", api.ErrDivisor}, {"z^17/0", api.ErrLong}, {"1e400/0", api.ErrFloat}, {"(1/z)^17", api.ErrLong}, {"z^9/(1/z^9)", api.ErrLong}, {"1/z^9+1/(z^9+1)", api.ErrLong}, {"0*z/(5e-324*5e-324)", api.ErrArg}, {"((3^64)^64)^64", api.ErrLong}, {"((1e300*z)^2 - (1e300*z)^2)", api.ErrArg}} {
		if m, f, e := Parse(c.s); !zero(m) || f != nil || e != c.e {
			t.Error(c.s, m, f, e)
		}
	}
	if m, f, e := Parse("z^65"); !zero(m) || f == nil || *f != (api.TextFault{At: 2, Code: api.ErrPower}) || e != api.ErrArg {
		t.Error(m, f, e)
	}
	if m, e := Of(api.Prog{}); !zero(m) || e != api.ErrProg {
		t.Error(m, e)
	}
	m, _, _ := Parse("z^2 + 2^-0"[:7])
	if m.Map.P[0] != 2 || len(m.Map.Q) != 1 {
		t.Error(m)
	}
	m, _, _ = Parse("5e-324*5e-324*z + 1")
	if len(m.P) != 2 || !slices.Equal(m.Map.P, api.Poly{1}) || !m.Rounded {
		t.Error("cut of what is then 0", m)
	}
	m, _, _ = Parse("9007199254740992*z + 9007199254740992 + 1")
	if m.Map.P[0] != 9007199254740992 || !m.Rounded {
		t.Error("a coefficient that is rounded", m)
	}
}

func TestNewMemory(t *testing.T) {
	p, _ := lang.Parse("let a = z^2 + 1; a/a")
	m, _ := Of(p)
	m.P[0], m.Map.P[0] = g(9), 9
	if m.Q[0] != g(1) || m.Map.Q[0] != 1 {
		t.Error("two lists share memory")
	}
	if n, _ := Of(p); n.P[0] != g(1) {
		t.Error("kept")
	}
}

func TestP12_4_P12_8Texts(t *testing.T) {
	for _, c := range []struct {
		m    api.Map
		want string
	}{{api.Map{P: api.Poly{0.25 - 1i, 0, 1}, Q: api.Poly{1}}, "(1 + 0*i)*z^2 + (0.25 + -1*i)"}, {api.Map{P: api.Poly{0, -2}, Q: api.Poly{complex(1, math.Copysign(0, -1))}}, "(-2 + 0*i)*z"}, {api.Map{P: api.Poly{3i}, Q: api.Poly{0, 1, 0.5}}, "((0 + 3*i))/((0.5 + 0*i)*z^2 + (1 + 0*i)*z)"}, {api.Map{P: api.Poly{1}, Q: api.Poly{2}}, "((1 + 0*i))/((2 + 0*i))"}} {
		if s, e := Text(c.m); s != c.want || e != api.OK {
			t.Error(s, e)
		}
	}
	r := rand.New(rand.NewSource(19))
	for range 100 {
		some := func() api.Poly {
			p := api.Poly{}
			for range r.Intn(5) {
				p = append(p, complex(r.NormFloat64()*float64(r.Intn(2)), r.NormFloat64()))
			}
			return append(p, complex(1/r.NormFloat64(), 0))
		}
		m := api.Map{P: some(), Q: some()}
		if r.Intn(2) == 0 {
			m.Q = api.Poly{1}
		}
		s, e := Text(m)
		back, f, h := Parse(s)
		if e != api.OK || f != nil || h != api.OK || back.Rounded || !slices.Equal(back.Map.P, m.P) || !slices.Equal(back.Map.Q, m.Q) {
			t.Error(s, f, h)
		}
		for k, z := range back.Map.P {
			if back.P[k] != g(z) {
				t.Error(s)
			}
		}
	}
	long := api.Map{P: slices.Repeat(api.Poly{complex(5e-324, -5e-324)}, 17), Q: api.Poly{1}}
	if s, e := Text(long); s != "" || e != api.ErrLong {
		t.Error(len(s), e)
	}
	for _, m := range []api.Map{{}, {P: api.Poly{1, 0}, Q: api.Poly{1}}, {P: api.Poly{1}, Q: api.Poly{complex(math.NaN(), 0)}}} {
		if s, e := Text(m); s != "" || e != api.ErrArg {
			t.Error(s, e)
		}
	}
	a, _, _ := Parse("z^2+0.5")
	b, _, _ := Parse(" ((z)^2 # x\n + (0.5))")
	c, _, _ := Parse("let q = z/3; z^2+0.5")
	d, _, _ := Parse("let q = 0.1; z^2+0.5")
	if !Same(a, b) || !Same(a, c) || Same(a, d) || !d.Rounded {
		t.Error("what changes nothing")
	}
	if d.Rounded = false; !Same(a, d) {
		t.Error("a spare let's number")
	}
}

func TestP12_5_P12_6Values(t *testing.T) {
	texts := []string{"z^2 - 1", "(z + 1)/(z - i)", "1/z + 1/z^2", "let c = z/(2*z + 1); c^3 - 2/(c - 3)", "-(z^2 + 0.1)/(z*i - 4)^2"}
	for _, s := range texts {
		m, f, e := Parse(s)
		if f != nil || e != api.OK {
			t.Fatal(s, f, e)
		}
		p, _ := lang.Parse(s)
		for _, z := range []complex128{0, 1, -0.5, 2i, 1.5 - 0.25i} {
			up, down, e := Value(m, g(z))
			above, below, ok := pair(p, p.Map, g(z))
			left, _ := gauss.Mul(up, below)
			right, _ := gauss.Mul(above, down)
			if e != api.OK || ok && left != right {
				t.Error(s, z, e)
			}
		}
	}
	e := api.Meaning{P: list(1, 2, 1), Q: list(0, 1)}
	if up, down, err := Value(e, g(3)); up != g(16) || down != g(3) || err != api.OK {
		t.Error(up, down, err)
	}
	if up, down, err := Value(api.Meaning{Q: list(2)}, g(3)); up != (api.Gauss{}) || down != g(2) || err != api.OK {
		t.Error(up, down, err)
	}
	bad := api.Gauss{Re: api.Dyad{N: "\x02"}}
	far := api.Gauss{Re: api.Dyad{N: "\x01", Exp: api.MaxExp}}
	for _, c := range []struct {
		e   api.Meaning
		g   api.Gauss
		err api.Errno
	}{{e, bad, api.ErrArg}, {api.Meaning{P: list(1)}, far, api.ErrArg}, {api.Meaning{P: list(1, 0), Q: list(1)}, g(1), api.ErrArg}, {api.Meaning{P: list(1), Q: list(1, 0)}, g(1), api.ErrArg}, {api.Meaning{P: []api.Gauss{bad, g(1)}, Q: list(1)}, g(1), api.ErrArg}, {e, far, api.ErrLong}, {api.Meaning{P: list(1), Q: list(0, 0, 1)}, far, api.ErrLong}} {
		if up, down, err := Value(c.e, c.g); up != down || up != (api.Gauss{}) || err != c.err {
			t.Error(c, up, down, err)
		}
	}
	m, _, _ := Parse("z^2+1")
	for i, change := range []func(*api.Meaning){func(m *api.Meaning) { m.P = list(1) }, func(m *api.Meaning) { m.Q = list(2) }, func(m *api.Meaning) { m.Rounded = true }, func(m *api.Meaning) { m.Map.P = api.Poly{1} }, func(m *api.Meaning) { m.Map.Q = api.Poly{complex(1, math.Copysign(0, -1))} }} {
		n, _, _ := Parse("z^2+1")
		if change(&n); Same(m, n) || !poly.Same(m.Map.P, api.Poly{1, 0, 1}) {
			t.Error(i)
		}
	}
}

// pair reckons a part at a number as a pair, above and below; false, where a below is 0.
func pair(p api.Prog, at int, z api.Gauss) (above, below api.Gauss, ok bool) {
	mul := func(a, b api.Gauss) api.Gauss { x, _ := gauss.Mul(a, b); return x }
	n := p.Nodes[at]
	one := g(1)
	switch n.Kind {
	case api.NodeNum:
		x, _, _ := Number(n.Text)
		return g(complex(x, 0)), one, true
	case api.NodeI:
		return g(1i), one, true
	case api.NodeZ:
		return z, one, true
	case api.NodeName:
		for _, l := range p.Lets {
			if l.Name == n.Text {
				return pair(p, l.At, z)
			}
		}
	}
	a, b, ok := pair(p, n.A, z)
	c, d, ok2 := one, one, true
	if n.Kind != api.NodeNeg && n.Kind != api.NodePow {
		c, d, ok2 = pair(p, n.B, z)
	}
	switch n.Kind {
	case api.NodeNeg:
		above, below = gauss.Neg(a), b
	case api.NodeAdd:
		above, _ = gauss.Add(mul(a, d), mul(c, b))
		below = mul(b, d)
	case api.NodeSub:
		above, _ = gauss.Sub(mul(a, d), mul(c, b))
		below = mul(b, d)
	case api.NodeMul:
		above, below = mul(a, c), mul(b, d)
	case api.NodeQuo:
		above, below = mul(a, d), mul(b, c)
	case api.NodePow:
		above, _ = gauss.Pow(a, n.N)
		below, _ = gauss.Pow(b, n.N)
	}
	return above, below, ok && ok2 && below != (api.Gauss{})
}
