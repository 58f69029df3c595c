package dyad

import (
	"math"
	"math/big"
	"math/rand"
	"strings"
	"testing"

	"filigree/api"
	"filigree/bits"
)

var (
	minus = math.Copysign(0, -1)
	zero  = api.Dyad{}
	ones  = api.Nat(strings.Repeat("\xff", api.MaxNat))
)

func value(d api.Dyad) *big.Float {
	n := new(big.Int).SetBytes([]byte(d.N))
	if d.Neg {
		n.Neg(n)
	}
	x := new(big.Float).SetPrec(300000).SetInt(n)
	return x.SetMantExp(x, d.Exp)
}

func must(n int64, exp int) api.Dyad {
	d, e := Of(n, exp)
	if e != api.OK {
		panic(e)
	}
	return d
}

// wrong are Dyads that may not be.
func wrong() []api.Dyad {
	return []api.Dyad{{Neg: true}, {Exp: 1}, {N: "\x02"}, {N: "\x00\x01"}, {N: "\x01", Exp: api.MaxExp + 1}, {N: "\x01", Exp: -api.MaxExp - 1}, {N: "\x01" + ones}, {N: "\x01", Exp: math.MinInt}, {N: "\x00"}}
}

func numbers() []api.Dyad {
	l := []api.Dyad{zero, must(1, 0), must(-1, 0), must(3, -1), must(-3, 1), must(1<<53+1, 0), must(1<<53+3, 0), must(1, -1075), must(3, -1076), must(-1, -2000), must(1, 1024), must(1, 1023), must(1, 5000), must(-1, -1074), must(1<<54-1, 970), must(1<<53-1, 971), must(-1<<53+1, -1074), must(1, -1022), must(1<<52-1, -1074), must(math.MinInt64, 3), must(math.MaxInt64, -1100), must(1<<54-1, -1075), must(1<<55-1, -1076)}
	r := rand.New(rand.NewSource(5))
	for i := range 150 {
		exp := r.Intn(200) - 100
		if i%3 == 0 {
			exp = r.Intn(2300) - 1200
		}
		n := r.Int63() >> r.Intn(63)
		if i%2 == 0 {
			n = -n
		}
		l = append(l, must(n, exp))
	}
	for i := range 20 {
		b := make([]byte, 10+i)
		r.Read(b)
		b[0] |= 1
		b[len(b)-1] |= 1
		l = append(l, api.Dyad{Neg: i%2 == 0, N: api.Nat(b), Exp: r.Intn(300) - 200})
	}
	return l
}

func TestP3_1_P3_2(t *testing.T) {
	for _, d := range append(numbers(), api.Dyad{N: ones, Exp: -api.MaxExp}, api.Dyad{Neg: true, N: "\x01", Exp: api.MaxExp}) {
		if Check(d) != api.OK {
			t.Error(d)
		}
	}
	for _, d := range wrong() {
		if Check(d) != api.ErrArg {
			t.Error(d.Exp, len(d.N))
		}
	}
	for _, c := range []struct {
		n    int64
		exp  int
		want api.Dyad
		e    api.Errno
	}{{12, -3, api.Dyad{N: "\x03", Exp: -1}, 0}, {0, math.MaxInt, zero, 0}, {0, math.MinInt, zero, 0}, {1, api.MaxExp + 1, zero, api.ErrLong}, {2, api.MaxExp, zero, api.ErrLong}, {1, api.MaxExp, api.Dyad{N: "\x01", Exp: api.MaxExp}, 0}, {2, -api.MaxExp - 1, api.Dyad{N: "\x01", Exp: -api.MaxExp}, 0}, {1, -api.MaxExp - 1, zero, api.ErrLong}, {1, math.MaxInt, zero, api.ErrLong}, {math.MinInt64, math.MinInt, zero, api.ErrLong}, {math.MinInt64, -63, api.Dyad{Neg: true, N: "\x01"}, 0}} {
		if d, e := Of(c.n, c.exp); d != c.want || e != c.e {
			t.Error(c, d, e)
		}
	}
	for _, c := range []struct {
		neg  bool
		n    api.Nat
		exp  int
		want api.Dyad
		e    api.Errno
	}{{true, "", 5, zero, 0}, {true, "\x0c", -3, api.Dyad{Neg: true, N: "\x03", Exp: -1}, 0}, {false, "\x00\x01", 0, zero, api.ErrArg}, {false, "\x01" + ones, math.MaxInt, zero, api.ErrArg}, {false, "\x80" + ones[1:len(ones)-1] + "\x00", api.MaxExp - 8, api.Dyad{N: "\x80" + ones[1:len(ones)-1], Exp: api.MaxExp}, 0}, {false, "\x80" + ones[1:len(ones)-1] + "\x00", api.MaxExp - 7, zero, api.ErrLong}} {
		if d, e := Make(c.neg, c.n, c.exp); d != c.want || e != c.e {
			t.Error(c.exp, d.Exp, e)
		}
	}
}

func TestP3_3_P3_12Floats(t *testing.T) {
	r := rand.New(rand.NewSource(6))
	l := []float64{0, 1, -1, 0.75, 5e-324, -5e-324, math.MaxFloat64, -math.MaxFloat64, 0x1p-1022, 0.1, 1e300, 1e-300}
	for range 300 {
		l = append(l, math.Float64frombits(r.Uint64()), (r.Float64()-0.5)*math.Pow(2, float64(r.Intn(120)-60)))
	}
	for i, x := range l {
		d, e := Float(x)
		if !bits.Finite(x) {
			if d != zero || e != api.ErrFloat {
				t.Error(x, d, e)
			}
			continue
		}
		for _, way := range []func(api.Dyad) (float64, api.Errno){Near, Above, Below} {
			if y, f := way(d); e != api.OK || f != api.OK || !bits.Like(x+0, y) || Check(d) != api.OK {
				t.Error(x, d, y)
			}
		}
		y, z := l[(i*5+1)%len(l)], l[(i*3+2)%len(l)]
		if !bits.Finite(y) || !bits.Finite(z) {
			continue
		}
		b, _ := Float(y)
		c, _ := Float(z)
		sum, _ := Add(d, b)
		product, _ := Mul(d, b)
		fused, _ := Add(product, c)
		for _, p := range []struct {
			d api.Dyad
			x float64
		}{{sum, x + y}, {product, x * y}, {fused, math.FMA(x, y, z)}} {
			if n, _ := Near(p.d); n != p.x || p.d != zero && !bits.Like(n, p.x) {
				t.Error(x, y, z, p, n)
			}
		}
	}
	for _, x := range []float64{minus, 0} {
		if d, e := Float(x); d != zero || e != api.OK {
			t.Error(d, e)
		}
	}
	for _, x := range []float64{math.NaN(), math.Inf(1), math.Inf(-1)} {
		if d, e := Float(x); d != zero || e != api.ErrFloat {
			t.Error(d, e)
		}
	}
}

func TestP3_4_P3_11Rounded(t *testing.T) {
	for _, d := range numbers() {
		x := value(d)
		near, _ := Near(d)
		if want, _ := x.Float64(); !bits.Like(near, want) {
			t.Error(d, near, want)
		}
		below, _ := Below(d)
		above, _ := Above(d)
		exact, _ := x.Float64()
		if new(big.Float).SetPrec(300000).SetFloat64(exact).Cmp(x) == 0 && !math.IsInf(exact, 0) {
			if !bits.Like(below, exact+0) || !bits.Like(above, exact+0) {
				t.Error(d, below, above)
			}
			continue
		}
		if new(big.Float).SetFloat64(below).Cmp(x) > 0 || new(big.Float).SetFloat64(above).Cmp(x) < 0 || bits.Up(below) != above || near != below && near != above {
			t.Error(d, below, near, above)
		}
	}
	for _, c := range []struct {
		d                  api.Dyad
		near, below, above float64
	}{{must(1<<53+1, 0), 1 << 53, 1 << 53, 1<<53 + 2}, {must(1, -1075), 0, 0, 5e-324}, {must(3, -1076), 5e-324, 0, 5e-324}, {must(-1, -2000), minus, -5e-324, minus}, {must(-1, -1075), minus, -5e-324, minus}, {must(1, 1024), math.Inf(1), math.MaxFloat64, math.Inf(1)}, {must(-1, 5000), math.Inf(-1), math.Inf(-1), -math.MaxFloat64}, {must(1<<54-1, 970), math.Inf(1), math.MaxFloat64, math.Inf(1)}, {must(1<<55-3, 969), math.MaxFloat64, math.MaxFloat64, math.Inf(1)}, {zero, 0, 0, 0}, {must(1, -api.MaxExp), 0, 0, 5e-324}} {
		near, _ := Near(c.d)
		below, _ := Below(c.d)
		above, _ := Above(c.d)
		if !bits.Like(near, c.near) || !bits.Like(below, c.below) || !bits.Like(above, c.above) {
			t.Error(c, near, below, above)
		}
	}
	for _, d := range wrong() {
		for _, way := range []func(api.Dyad) (float64, api.Errno){Near, Above, Below} {
			if x, e := way(d); !bits.Like(x, 0) || e != api.ErrArg {
				t.Error(x, e)
			}
		}
	}
}

func TestP3_5_P3_6_P3_7(t *testing.T) {
	l := numbers()
	for _, a := range l {
		x := value(a)
		top, ok := Top(a)
		if Sign(a) != x.Sign() || ok != (x.Sign() != 0) || ok && top != x.MantExp(nil)-1 {
			t.Error(a, top, ok)
		}
		if value(Neg(a)).Cmp(new(big.Float).Neg(x)) != 0 || value(Abs(a)).Cmp(new(big.Float).Abs(x)) != 0 || Check(Neg(a)) != api.OK || Check(Abs(a)) != api.OK {
			t.Error(a)
		}
		for _, b := range l {
			y := value(b)
			sum, _ := Add(a, b)
			diff, _ := Sub(a, b)
			product, _ := Mul(a, b)
			c, _ := Cmp(a, b)
			exact := new(big.Float).SetPrec(300000)
			if value(sum).Cmp(exact.Add(x, y)) != 0 || value(diff).Cmp(exact.Sub(x, y)) != 0 || value(product).Cmp(exact.Mul(x, y)) != 0 || c != x.Cmp(y) || c != Sign(diff) {
				t.Fatal(a, b, sum, diff, product, c)
			}
			if Check(sum) != api.OK || Check(diff) != api.OK || Check(product) != api.OK {
				t.Error("not in its one form", a, b)
			}
		}
		for _, f := range []float64{0, minus, 1, -1.5, 5e-324, math.MaxFloat64, 1 << 53} {
			if c, e := Against(a, f); c != x.Cmp(big.NewFloat(f)) || e != api.OK {
				t.Error(a, f, c, e)
			}
		}
		if c, e := Against(a, math.Inf(1)); c != -1 || e != api.OK {
			t.Error(a, c, e)
		}
		if c, e := Against(a, math.Inf(-1)); c != 1 || e != api.OK {
			t.Error(a, c, e)
		}
		if c, e := Against(a, math.NaN()); c != 0 || e != api.ErrFloat {
			t.Error(a, c, e)
		}
	}
}

func TestBounds(t *testing.T) {
	far, one := must(1, api.MaxExp), must(1, 0)
	long := api.Dyad{N: ones}
	check := func(what string, d api.Dyad, e api.Errno, want api.Dyad, f api.Errno) {
		if d != want || e != f {
			t.Error(what, d.Exp, len(d.N), e)
		}
	}
	d, e := Add(far, far)
	check("far + far", d, e, zero, api.ErrLong)
	d, e = Add(far, one)
	check("far + 1", d, e, zero, api.ErrLong)
	d, e = Mul(far, must(1, 1))
	check("far * 2", d, e, zero, api.ErrLong)
	d, e = Mul(far, must(1, -api.MaxExp))
	check("far * near", d, e, one, api.OK)
	d, e = Add(long, one)
	check("2^131072", d, e, must(1, 131072), api.OK)
	d, e = Sub(must(1, 131072), one)
	check("2^131072 - 1", d, e, long, api.OK)
	d, e = Sub(must(3, 131071), long)
	check("3 2^131071 - (2^131072 - 1)", d, e, api.Dyad{N: "\x80" + api.Nat(strings.Repeat("\x00", api.MaxNat-2)) + "\x01"}, api.OK)
	d, e = Sub(must(1, 131073), one)
	check("2^131073 - 1", d, e, zero, api.ErrLong)
	d, e = Add(must(1, 131072), one)
	check("2^131072 + 1", d, e, zero, api.ErrLong)
	d, e = Mul(long, long)
	check("long squared", d, e, zero, api.ErrLong)
	d, e = Mul(must(1, -api.MaxExp), must(1, -1))
	check("too near 0", d, e, zero, api.ErrLong)
	d, e = Sum(far, far, Neg(far))
	check("a sum on the way", d, e, zero, api.ErrLong)
	d, e = Sum(one, one, one)
	check("three", d, e, must(3, 0), api.OK)
	d, e = Sum()
	check("none", d, e, zero, api.OK)
}

func TestP3_8_P3_10(t *testing.T) {
	for _, d := range numbers() {
		for _, by := range []int{0, 1, -1, 77, -500} {
			s, e := Shift(d, by)
			if x := value(d); e != api.OK || value(s).Cmp(x.SetMantExp(x, by)) != 0 {
				t.Error(d, by, s, e)
			}
		}
		for _, by := range []int{math.MaxInt, math.MinInt, 2*api.MaxExp + 1} {
			if s, e := Shift(d, by); s != zero || (e == api.OK) != (d == zero) {
				t.Error(d, by, s, e)
			}
		}
		for _, exp := range []int{0, -3, 5, -1074, 1000, 60} {
			f, e := Floor(d, exp)
			more, _ := Add(f, must(1, exp))
			low, _ := Cmp(f, d)
			high, _ := Cmp(d, more)
			if e != api.OK || low > 0 || high >= 0 || f != zero && f.Exp < exp {
				t.Error(d, exp, f, e)
			}
		}
		for _, exp := range []int{api.MaxExp + 1, -api.MaxExp - 1, math.MinInt} {
			if f, e := Floor(d, exp); f != zero || e != api.ErrArg {
				t.Error(d, exp, f, e)
			}
		}
	}
	for _, c := range []struct {
		n         int64
		exp, by   int
		want      int64
		wantExp   int
		wantErrno api.Errno
	}{{-3, -1, 0, -1, 1, 0}, {7, 0, 2, 1, 2, 0}, {1, 0, 5, 0, 0, 0}, {-1, -api.MaxExp, api.MaxExp, -1, api.MaxExp, 0}, {-15, api.MaxExp - 3, api.MaxExp, 0, 0, api.ErrLong}} {
		if f, e := Floor(must(c.n, c.exp), c.by); f != must(c.want, c.wantExp) || e != c.wantErrno {
			t.Error(c, f, e)
		}
	}
	if s, e := Shift(must(1, -api.MaxExp), 2*api.MaxExp); s != must(1, api.MaxExp) || e != api.OK {
		t.Error(s, e)
	}
}

func TestP3_9_P3_13Texts(t *testing.T) {
	for _, d := range numbers() {
		s, e := Show(d)
		if back, f := Read(s); back != d || e != api.OK || f != api.OK {
			t.Error(d, s, back)
		}
	}
	if s, _ := Show(must(-15, 2)); s != "-15p2" {
		t.Error(s)
	}
	for _, s := range []string{"", "6p0", "-0", "0p0", "+3p0", "3p+1", "03p1", "3p01", "3p-0", "3", "p1", "3p", "3p1048577", "3p-1048577", "3p1 ", " 3p1", "--3p1", "3p1p1", "3p99999999999999999999", "00", "-", "1p1048577"} {
		if d, e := Read(s); d != zero || e != api.ErrDyad {
			t.Error(s, d, e)
		}
	}
	if d, e := Read("1p1048576"); d != must(1, api.MaxExp) || e != api.OK {
		t.Error(d, e)
	}
	if d, e := Read(strings.Repeat("9", 39457) + "p0"); d != zero || e != api.ErrDyad {
		t.Error(e)
	}
}

func TestWrongDyads(t *testing.T) {
	for _, d := range wrong() {
		if Sign(d) != 0 || Neg(d) != zero || Abs(d) != zero {
			t.Error(d)
		}
		if top, ok := Top(d); top != 0 || ok {
			t.Error(top, ok)
		}
		one := must(1, 0)
		for _, p := range [][2]api.Dyad{{d, one}, {one, d}, {d, d}, {zero, d}, {d, zero}} {
			_, e1 := Cmp(p[0], p[1])
			d2, e2 := Add(p[0], p[1])
			d3, e3 := Sub(p[0], p[1])
			d4, e4 := Mul(p[0], p[1])
			d5, e5 := Sum(must(1, api.MaxExp), must(1, api.MaxExp), p[0], p[1])
			for i, e := range []api.Errno{e1, e2, e3, e4, e5} {
				if e != api.ErrArg {
					t.Error(i, e)
				}
			}
			if d2 != zero || d3 != zero || d4 != zero || d5 != zero {
				t.Error("an answer beside an error")
			}
		}
		_, e1 := Against(d, math.NaN())
		_, e2 := Shift(d, 1)
		_, e3 := Floor(d, math.MaxInt)
		s, e4 := Show(d)
		if e1 != api.ErrArg || e2 != api.ErrArg || e3 != api.ErrArg || e4 != api.ErrArg || s != "" {
			t.Error(e1, e2, e3, e4)
		}
	}
}
