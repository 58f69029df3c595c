package ratio

import (
	"math"
	"math/big"
	"math/rand"
	"strings"
	"testing"

	"filigree/api"
	"filigree/bits"
	"filigree/nat"
)

var (
	minus = math.Copysign(0, -1)
	none  = api.Ratio{}
	ones  = api.Nat(strings.Repeat("\xff", api.MaxNat))
)

func rat(a api.Ratio) *big.Rat {
	n := new(big.Int).SetBytes([]byte(a.Num))
	if a.Neg {
		n.Neg(n)
	}
	return new(big.Rat).SetFrac(n, new(big.Int).SetBytes([]byte(a.Den)))
}

func of(x *big.Rat) api.Ratio {
	return api.Ratio{Neg: x.Sign() < 0, Num: api.Nat(x.Num().Bytes()), Den: api.Nat(x.Denom().Bytes())}
}

func read(s string) api.Ratio {
	x, _ := new(big.Rat).SetString(s)
	return of(x)
}

func wrong() []api.Ratio {
	return []api.Ratio{{}, {Num: "\x01"}, {Neg: true, Den: "\x01"}, {Den: "\x02"}, {Num: "\x02", Den: "\x04"}, {Num: "\x00\x01", Den: "\x01"}, {Num: "\x01", Den: "\x00\x02"}, {Num: "\x01" + ones, Den: "\x01"}, {Num: "\x01", Den: "\x01" + ones}, {Den: ""}}
}

func numbers() []api.Ratio {
	var l []api.Ratio
	for _, s := range []string{"0", "1", "-1", "1/3", "-2/3", "3/4", "-3/2", "7/2", "100", "-100/7", "1/9007199254740992", "9007199254740993", "-9007199254740991/4", "355/113"} {
		l = append(l, read(s))
	}
	r := rand.New(rand.NewSource(7))
	for i := range 60 {
		n, d := big.NewInt(r.Int63()>>r.Intn(62)), big.NewInt(r.Int63()>>r.Intn(62)+1)
		n.Lsh(n, uint(r.Intn(1300)*(i%3)/2))
		d.Lsh(d, uint(r.Intn(1300)*(i%5)/4))
		if i%2 == 0 {
			n.Neg(n)
		}
		l = append(l, of(new(big.Rat).SetFrac(n, d)))
	}
	return l
}

func TestP4_1(t *testing.T) {
	for _, a := range append(numbers(), api.Ratio{Num: ones, Den: "\x01"}, api.Ratio{Neg: true, Num: "\x01", Den: ones}) {
		if !May(a) {
			t.Error(a)
		}
	}
	for _, a := range wrong() {
		if May(a) {
			t.Error(len(a.Num), a.Den)
		}
	}
	for _, c := range []struct {
		neg      bool
		num, den api.Nat
		want     api.Ratio
		e        api.Errno
	}{{true, "\x06", "\x04", read("-3/2"), 0}, {true, "", "\x07", read("0"), 0}, {false, "\x01", "", none, api.ErrArg}, {false, "\x00\x01", "\x01", none, api.ErrArg}, {false, "\x01", "\x00\x01", none, api.ErrArg}, {false, "\x01" + ones, "\x01", none, api.ErrArg}, {false, "\x01", "\x01" + ones, none, api.ErrArg}, {false, ones, ones, read("1"), 0}, {false, "", "", none, api.ErrArg}} {
		if a, e := New(c.neg, c.num, c.den); a != c.want || e != c.e {
			t.Error(c.neg, len(c.num), a, e)
		}
	}
	for _, n := range []int64{0, 1, -1, math.MaxInt64, math.MinInt64} {
		if rat(Whole(n)).Cmp(new(big.Rat).SetInt64(n)) != 0 || !May(Whole(n)) {
			t.Error(n)
		}
	}
}

func TestP4_2Dyads(t *testing.T) {
	for _, c := range []struct {
		d api.Dyad
		s string
	}{{api.Dyad{Neg: true, N: "\x03", Exp: -1}, "-3/2"}, {api.Dyad{}, "0"}, {api.Dyad{N: "\x05", Exp: 3}, "40"}, {api.Dyad{N: "\x03", Exp: -3}, "3/8"}, {api.Dyad{N: "\x01", Exp: -80}, "1/1208925819614629174706176"}} {
		if a, e := Of(c.d); a != read(c.s) || e != api.OK {
			t.Error(c, a, e)
		}
		if d, ok := Dyad(read(c.s)); d != c.d || !ok {
			t.Error(c, d, ok)
		}
	}
	for _, c := range []struct {
		d api.Dyad
		e api.Errno
	}{{api.Dyad{N: "\x02"}, api.ErrArg}, {api.Dyad{N: "\x01", Exp: 131072}, api.ErrLong}, {api.Dyad{N: "\x01", Exp: -131072}, api.ErrLong}, {api.Dyad{N: "\x01", Exp: 131071}, 0}, {api.Dyad{N: ones, Exp: -131071}, 0}, {api.Dyad{N: ones, Exp: 1}, api.ErrLong}, {api.Dyad{N: "\x01", Exp: -api.MaxExp}, api.ErrLong}} {
		a, e := Of(c.d)
		if e != c.e || e != api.OK && a != none {
			t.Error(c.d.Exp, e)
		}
		if d, ok := Dyad(a); ok != (e == api.OK) || ok && d != c.d {
			t.Error(c.d.Exp, ok)
		}
	}
	for _, a := range append(wrong(), read("1/3"), read("5/6")) {
		if d, ok := Dyad(a); d != (api.Dyad{}) || ok {
			t.Error(a, d)
		}
	}
}

func TestP4_3_P4_4_P4_8(t *testing.T) {
	l := numbers()
	for _, a := range l {
		x := rat(a)
		if n, e := Neg(a); n != of(new(big.Rat).Neg(x)) || e != api.OK {
			t.Error(a, n, e)
		}
		floor, e := Floor(a)
		whole := new(big.Rat).SetInt(new(big.Int).Div(x.Num(), x.Denom()))
		if floor != of(whole) || e != api.OK {
			t.Error(x, rat(floor), e)
		}
		if p, e := Part(a); p != of(new(big.Rat).Sub(x, whole)) || e != api.OK {
			t.Error(x, rat(p), e)
		}
		for _, b := range l {
			y := rat(b)
			sum, e1 := Add(a, b)
			diff, e2 := Sub(a, b)
			product, e3 := Mul(a, b)
			c, e4 := Compare(a, b)
			if sum != of(new(big.Rat).Add(x, y)) || diff != of(new(big.Rat).Sub(x, y)) || product != of(new(big.Rat).Mul(x, y)) || c != x.Cmp(y) || e1+e2+e3+e4 != 0 {
				t.Error(x, y)
			}
			q, e := Quo(a, b)
			if y.Sign() == 0 && (q != none || e != api.ErrArg) || y.Sign() != 0 && (e != api.OK || q != of(new(big.Rat).Quo(x, y))) {
				t.Error(x, y, q, e)
			}
		}
	}
}

func TestLong(t *testing.T) {
	huge, tiny := api.Ratio{Num: ones, Den: "\x01"}, api.Ratio{Num: "\x01", Den: ones}
	other, _ := nat.Sub(ones, nat.Of(1))
	near := api.Ratio{Num: other, Den: ones}
	for _, c := range []struct {
		do   func(a, b api.Ratio) (api.Ratio, api.Errno)
		a, b api.Ratio
		want api.Ratio
		e    api.Errno
	}{{Add, huge, read("1"), none, api.ErrLong}, {Mul, huge, huge, none, api.ErrLong}, {Mul, huge, tiny, read("1"), 0}, {Sub, tiny, tiny, read("0"), 0}, {Add, tiny, near, read("1"), 0}, {Quo, tiny, tiny, read("1"), 0}, {Quo, tiny, huge, none, api.ErrLong}, {Add, tiny, read("1/2"), none, api.ErrLong}, {Sub, huge, read("1/3"), none, api.ErrLong}} {
		if a, e := c.do(c.a, c.b); a != c.want || e != c.e {
			t.Error(e, len(a.Num), len(a.Den))
		}
	}
	if c, e := Compare(tiny, near); c != -1 || e != api.OK {
		t.Error(c, e)
	}
	if x, e := Float(huge); x != math.Inf(1) || e != api.OK {
		t.Error(x, e)
	}
	if x, e := Float(near); x != 1 || e != api.OK {
		t.Error(x, e)
	}
	if x, e := Below(near); x != bits.Down(1) || e != api.OK {
		t.Error(x, e)
	}
}

func TestP4_5_P4_9Floats(t *testing.T) {
	for _, a := range numbers() {
		x := rat(a)
		want, exact := x.Float64()
		if x.Sign() < 0 && want == 0 {
			want = minus
		}
		near, e := Float(a)
		below, _ := Below(a)
		above, _ := Above(a)
		if !bits.Like(near, want) || e != api.OK {
			t.Error(x, near, want)
		}
		if exact && (!bits.Like(below, want+0) || !bits.Like(above, want+0)) {
			t.Error(x, below, above)
		}
		if !exact && (bits.Up(below) != above || near != below && near != above) {
			t.Error(x, below, near, above)
		}
		if bits.Finite(below) && new(big.Rat).SetFloat64(below).Cmp(x) > 0 || bits.Finite(above) && new(big.Rat).SetFloat64(above).Cmp(x) < 0 {
			t.Error(x, below, above)
		}
	}
	pow := func(n int) api.Nat { p, _ := nat.Shift(nat.Of(1), n); return p }
	top, _ := nat.Sub(pow(1024), pow(970))
	under, _ := nat.Sub(top, nat.Of(1))
	for _, c := range []struct {
		a                  api.Ratio
		near, below, above float64
	}{{api.Ratio{Num: pow(1024), Den: one}, math.Inf(1), math.MaxFloat64, math.Inf(1)}, {api.Ratio{Neg: true, Num: pow(1024), Den: one}, math.Inf(-1), math.Inf(-1), -math.MaxFloat64}, {api.Ratio{Num: top, Den: one}, math.Inf(1), math.MaxFloat64, math.Inf(1)}, {api.Ratio{Num: under, Den: one}, math.MaxFloat64, math.MaxFloat64, math.Inf(1)}, {api.Ratio{Neg: true, Num: one, Den: pow(1075)}, minus, -5e-324, minus}, {api.Ratio{Num: one, Den: pow(1075)}, 0, 0, 5e-324}, {api.Ratio{Num: "\x03", Den: pow(1076)}, 5e-324, 0, 5e-324}, {api.Ratio{Neg: true, Num: one, Den: pow(1076)}, minus, -5e-324, minus}, {api.Ratio{Num: one, Den: pow(5000)}, 0, 0, 5e-324}, {api.Ratio{Num: one, Den: pow(1074)}, 5e-324, 5e-324, 5e-324}, {api.Ratio{Den: one}, 0, 0, 0}} {
		near, _ := Float(c.a)
		below, _ := Below(c.a)
		above, _ := Above(c.a)
		if !bits.Like(near, c.near) || !bits.Like(below, c.below) || !bits.Like(above, c.above) {
			t.Error(near, below, above, c.near, c.below, c.above)
		}
	}
	if a, _ := Float(read("1/3")); bits.Text(a) != "6004799503160661p-54" {
		t.Error(a)
	}
}

func TestP4_6_P4_10Texts(t *testing.T) {
	for _, a := range numbers() {
		s, e := Text(a)
		if s != strings.TrimSuffix(rat(a).String(), "/1") || e != api.OK {
			t.Error(s, rat(a), e)
		}
		if b, e := Read(s); a != b || e != api.OK {
			t.Error(s, b, e)
		}
	}
	for _, s := range []string{"", "6/4", "-0", "0/1", "5/1", "0/5", "1/0", "1/", "/2", "01/2", "1/02", "1//2", "1/-2", "+1", "--1", " 1", "1 ", "1/2/3", "-", "-/2", strings.Repeat("9", 39458)} {
		if a, e := Read(s); a != none || e != api.ErrRatioText {
			t.Error(s, a, e)
		}
	}
	if _, e := Read(strings.Repeat("x", api.MaxRatioText+1)); e != api.ErrLong {
		t.Error(e)
	}
	if _, e := Read(strings.Repeat("x", api.MaxRatioText)); e != api.ErrRatioText {
		t.Error(e)
	}
}

func TestP4_7Decimals(t *testing.T) {
	for _, s := range []string{"0", "-0", "1", "-1.50", "25e-2", "0.1", "10", "1.000", "0.0", "1e0", "12.5e3", "-0.0e7", "9007199254740993", "2.4703282292062327208e-324", "4.9406564584124654e-324", "1.7976931348623159e308", "1e308", "0.30000000000000004", "1e-5000", "0.000123e-10", "1e5000"} {
		want, _ := new(big.Rat).SetString(s)
		a, e := Decimal(s)
		if a != of(want) || e != api.OK {
			t.Error(s, a, e)
		}
		x, e := Nearest(s)
		f, _ := want.Float64()
		if s[0] == '-' {
			f = -math.Abs(f)
		}
		if !bits.Like(x, f) || e != api.OK {
			t.Error(s, x, f, e)
		}
	}
	for _, s := range []string{"", "-", ".5", "1.", "1.e5", "1e", "1e-", "1e+3", "01", "00", "-01", "1e01", "1e-0", "1e-01", "1E5", "+1", " 1", "1 ", "1x", "0x1", "1_0", "--1", "1e5.5", "1.2.3", "1\x00", "\x00", "1e5\x00", "inf", "nan", "٣"} {
		if a, e := Decimal(s); a != none || e != api.ErrRatioText {
			t.Error(s, a, e)
		}
		if x, e := Nearest(s); !bits.Like(x, 0) || e != api.ErrRatioText {
			t.Error(s, x, e)
		}
	}
	for _, s := range []string{"1e5001", "1e-5001", "0e99999999999999999999999", "1e-18446744073709551617", strings.Repeat("1", api.MaxDecimal+1), strings.Repeat("x", api.MaxDecimal+1)} {
		if a, e := Decimal(s); a != none || e != api.ErrLong {
			t.Error(len(s), e)
		}
		if x, e := Nearest(s); !bits.Like(x, 0) || e != api.ErrLong {
			t.Error(len(s), x, e)
		}
	}
	if a, e := Decimal(strings.Repeat("9", api.MaxDecimal-5) + "e5000"); !May(a) || e != api.OK {
		t.Error(e)
	}
	if x, e := Nearest("0." + strings.Repeat("9", 4000) + "e-5000"); !bits.Like(x, 0) || e != api.OK {
		t.Error(x, e)
	}
	if x, e := Nearest("-1e-400"); !bits.Like(x, minus) || e != api.OK {
		t.Error(x, e)
	}
	if x, _ := Nearest("1e309"); x != math.Inf(1) {
		t.Error(x)
	}
}

func TestWrongRatios(t *testing.T) {
	for _, w := range wrong() {
		for _, p := range [][2]api.Ratio{{w, read("1/2")}, {read("1/2"), w}} {
			a1, e1 := Add(p[0], p[1])
			a2, e2 := Sub(p[0], p[1])
			a3, e3 := Mul(p[0], p[1])
			a4, e4 := Quo(p[0], p[1])
			_, e5 := Compare(p[0], p[1])
			if a1 != none || a2 != none || a3 != none || a4 != none || min(e1, e2, e3, e4, e5) != api.ErrArg || max(e1, e2, e3, e4, e5) != api.ErrArg {
				t.Error(e1, e2, e3, e4, e5)
			}
		}
		a1, e1 := Neg(w)
		a2, e2 := Floor(w)
		a3, e3 := Part(w)
		x1, e4 := Float(w)
		x2, e5 := Below(w)
		x3, e6 := Above(w)
		s, e7 := Text(w)
		if a1 != none || a2 != none || a3 != none || s != "" || x1+x2+x3 != 0 || min(e1, e2, e3, e4, e5, e6, e7) != api.ErrArg {
			t.Error(e1, e2, e3, e4, e5, e6, e7)
		}
	}
}
