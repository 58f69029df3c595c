package nat

import (
	"math"
	"math/big"
	"math/rand"
	"strings"
	"testing"

	"filigree/api"
)

var (
	long    = api.Nat(strings.Repeat("\xff", api.MaxNat)) // the greatest number
	tooLong = api.Nat("\x01" + strings.Repeat("\x00", api.MaxNat))
	noughty = api.Nat("\x00\x01")
)

func big1(a api.Nat) *big.Int { return new(big.Int).SetBytes([]byte(a)) }

func of(x *big.Int) api.Nat { return api.Nat(x.Bytes()) }

func numbers() []api.Nat {
	l := []api.Nat{"", "\x01", "\x02", "\xff", "\x01\x00", Of(math.MaxUint64), Of(1 << 63), api.Nat("\x01" + strings.Repeat("\x00", 8)), api.Nat(strings.Repeat("\xff", 24))}
	r := rand.New(rand.NewSource(4))
	for i := range 60 {
		b := make([]byte, 1+i)
		r.Read(b)
		b[0] |= 1
		l = append(l, api.Nat(b))
	}
	return l
}

func TestP2_1(t *testing.T) {
	for _, a := range numbers() {
		x := big1(a)
		n, ok := Small(a)
		if Check(a) != api.OK || ok != x.IsUint64() || ok && n != x.Uint64() || !ok && n != 0 {
			t.Error(x, n, ok)
		}
		if ok && Of(n) != a {
			t.Error(x, Of(n))
		}
	}
	for _, a := range []api.Nat{noughty, tooLong, "\x00"} {
		if n, ok := Small(a); Check(a) != api.ErrArg || n != 0 || ok {
			t.Error(len(a), n, ok)
		}
	}
	if Check(long) != api.OK || Of(0) != "" || Of(256) != "\x01\x00" {
		t.Error("edges")
	}
}

func TestP2_2(t *testing.T) {
	for _, a := range append(numbers(), long) {
		x := big1(a)
		n, e := Len(a)
		low, f := Low(a)
		if n != x.BitLen() || low != int(x.TrailingZeroBits()) || e != api.OK || f != api.OK {
			t.Error(x, n, low)
		}
		for _, i := range []int{0, 1, 7, 8, 9, n - 1, n, n + 1, math.MaxInt, -1, math.MinInt} {
			b, e := Bit(a, i)
			if i < 0 && (e != api.ErrArg || b != 0) || i >= 0 && (e != api.OK || uint(b) != x.Bit(i)) {
				t.Error(x, i, b, e)
			}
		}
		for _, b := range numbers() {
			if c, e := Cmp(a, b); c != x.Cmp(big1(b)) || e != api.OK {
				t.Error(x, big1(b), c, e)
			}
		}
	}
}

func TestP2_3_P2_4_P2_8(t *testing.T) {
	for _, a := range numbers() {
		for _, b := range numbers() {
			x, y := big1(a), big1(b)
			sum, e := Add(a, b)
			product, f := Mul(a, b)
			if e != api.OK || f != api.OK || sum != of(new(big.Int).Add(x, y)) || product != of(new(big.Int).Mul(x, y)) {
				t.Error(x, y, big1(sum), big1(product))
			}
			d, e := Sub(a, b)
			if x.Cmp(y) < 0 && (d != "" || e != api.ErrBelow) || x.Cmp(y) >= 0 && (e != api.OK || d != of(new(big.Int).Sub(x, y))) {
				t.Error(x, y, d, e)
			}
			q, r, e := Div(a, b)
			if b == "" {
				if q != "" || r != "" || e != api.ErrZero {
					t.Error(x, q, r, e)
				}
				continue
			}
			u, v := new(big.Int).QuoRem(x, y, new(big.Int))
			if q != of(u) || r != of(v) || e != api.OK {
				t.Error(x, y, big1(q), big1(r), e)
			}
		}
		for _, n := range []int{0, 1, 7, 8, 63, 64, 65, 1000, 5000} {
			up, e := Shift(a, n)
			down, f := Shift(a, -n)
			if e != api.OK || f != api.OK || up != of(new(big.Int).Lsh(big1(a), uint(n))) || down != of(new(big.Int).Rsh(big1(a), uint(n))) {
				t.Error(big1(a), n)
			}
		}
		root, rest, e := Root(a)
		s := new(big.Int).Sqrt(big1(a))
		if root != of(s) || rest != of(new(big.Int).Sub(big1(a), new(big.Int).Mul(s, s))) || e != api.OK {
			t.Error(big1(a), root, rest, e)
		}
	}
}

func TestBounds(t *testing.T) {
	one := Of(1)
	if n, e := Add(long, one); n != "" || e != api.ErrLong {
		t.Error("Add", e)
	}
	if n, e := Add(long, ""); n != long || e != api.OK {
		t.Error("Add of 0", e)
	}
	half, _ := Shift(one, 65536)
	below, _ := Sub(half, one)
	if n, e := Mul(half, half); n != "" || e != api.ErrLong {
		t.Error("Mul", e)
	}
	if n, e := Mul(half, below); len(n) != api.MaxNat || e != api.OK {
		t.Error("Mul", len(n), e)
	}
	if n, e := Mul(long, one); n != long || e != api.OK {
		t.Error("Mul by 1", e)
	}
	if n, e := Shift(one, 131071); len(n) != api.MaxNat || e != api.OK {
		t.Error("Shift", e)
	}
	for _, n := range []int{131072, math.MaxInt} {
		if s, e := Shift(one, n); s != "" || e != api.ErrLong {
			t.Error("Shift", n, e)
		}
		if s, e := Shift("", n); s != "" || e != api.OK {
			t.Error("Shift of 0", n, e)
		}
		if s, e := Shift(long, -n); s != "" || e != api.OK {
			t.Error("Shift", -n, e)
		}
	}
	if s, e := Shift(long, math.MinInt); s != "" || e != api.OK {
		t.Error("Shift", e)
	}
	if q, r, e := Div(long, half); len(q) != 8192 || len(r) != 8192 || e != api.OK {
		t.Error("Div", e)
	}
	if root, rest, e := Root(long); root != below || len(rest) != 8193 || e != api.OK {
		t.Error("Root", len(root), len(rest), e)
	}
	if n, e := Sum(long, "", one); n != "" || e != api.ErrLong {
		t.Error("Sum", e)
	}
	if n, e := Sum(); n != "" || e != api.OK {
		t.Error("Sum of none", e)
	}
	if n, e := Sum(one, Of(2), Of(math.MaxUint64), long); n != "" || e != api.ErrLong {
		t.Error("Sum", e)
	}
	if n, e := Sum(Of(math.MaxUint64), Of(math.MaxUint64), one); n != of(new(big.Int).SetBytes([]byte("\x01\xff\xff\xff\xff\xff\xff\xff\xff"))) || e != api.OK {
		t.Error("Sum", n, e)
	}
}

func TestP2_5(t *testing.T) {
	for _, a := range numbers()[:20] {
		for _, n := range []int{0, 1, 2, 3, 5, 17, 100} {
			if p, e := Pow(a, n); e != api.OK || p != of(new(big.Int).Exp(big1(a), big.NewInt(int64(n)), nil)) {
				t.Error(big1(a), n, e)
			}
		}
		for _, b := range numbers() {
			if g, e := Gcd(a, b); e != api.OK || g != of(new(big.Int).GCD(nil, nil, big1(a), big1(b))) {
				t.Error(big1(a), big1(b), g, e)
			}
		}
	}
	for _, c := range []struct {
		a api.Nat
		n int
		e api.Errno
	}{{Of(10), -1, api.ErrArg}, {Of(2), 131072, api.ErrLong}, {Of(2), 131071, api.OK}, {Of(3), 82697, api.OK}, {Of(3), 82698, api.ErrLong}, {Of(3), math.MaxInt, api.ErrLong}, {"", math.MaxInt, api.OK}, {Of(1), math.MaxInt, api.OK}, {long, 1, api.OK}, {long, 2, api.ErrLong}, {noughty, -1, api.ErrArg}, {"", math.MinInt, api.ErrArg}} {
		if p, e := Pow(c.a, c.n); e != c.e || e != api.OK && p != "" || len(c.a) == 1 && c.a[0] == 1 && e == api.OK && p != c.a {
			t.Error(len(c.a), c.n, e)
		}
	}
	for _, c := range [][3]uint64{{12, 18, 6}, {0, 5, 5}, {5, 0, 5}, {0, 0, 0}, {7, 7, 7}} {
		if g, e := Gcd(Of(c[0]), Of(c[1])); g != Of(c[2]) || e != api.OK {
			t.Error(c, g, e)
		}
	}
}

func TestP2_6_P2_10Texts(t *testing.T) {
	for _, a := range append(numbers(), long, Of(1e19), Of(1e19-1), Of(10)) {
		s, e := Text(a)
		if s != big1(a).String() || e != api.OK {
			t.Error(big1(a), s, e)
		}
		if b, e := Read(s); b != a || e != api.OK {
			t.Error(s, e)
		}
	}
	for _, s := range []string{"", "007", "00", "12a", "-1", "+1", " 1", "1 ", "1_0", strings.Repeat("9", 50000) + "x", "\xff"} {
		if a, e := Read(s); a != "" || e != api.ErrDigits {
			t.Error(s, a, e)
		}
	}
	over := new(big.Int).Add(big1(long), big.NewInt(1)).String()
	for _, s := range []string{over, strings.Repeat("9", 39457), strings.Repeat("9", 39458), "1" + strings.Repeat("0", 100000)} {
		if a, e := Read(s); a != "" || e != api.ErrLong {
			t.Error(len(s), e)
		}
	}
}

func TestP2_7_P2_9Laws(t *testing.T) {
	l := numbers()
	for i, a := range l {
		b, c := l[(i*7+3)%len(l)], l[(i*11+5)%len(l)]
		ab, _ := Add(a, b)
		left, _ := Mul(c, ab)
		ca, _ := Mul(c, a)
		cb, _ := Mul(c, b)
		if right, _ := Add(ca, cb); left != right {
			t.Error("a product with a sum", i)
		}
		if d, _ := Sub(ab, b); d != a {
			t.Error("Sub of Add", i)
		}
		g, _ := Gcd(a, b)
		if g == "" {
			continue
		}
		x, r, _ := Div(a, g)
		y, s, _ := Div(b, g)
		if one, _ := Gcd(x, y); r != "" || s != "" || one != Of(1) {
			t.Error("Gcd", i)
		}
	}
}

func TestWrongNumbers(t *testing.T) {
	for _, a := range []api.Nat{noughty, tooLong} {
		for _, b := range []api.Nat{"", Of(3), a} {
			for _, p := range [][2]api.Nat{{a, b}, {b, a}} {
				x, y := p[0], p[1]
				_, e1 := Cmp(x, y)
				n2, e2 := Add(x, y)
				n3, e3 := Sub(x, y)
				n4, e4 := Mul(x, y)
				n5, n6, e5 := Div(x, y)
				n7, e6 := Gcd(x, y)
				n8, e7 := Sum(x, Of(1), y)
				for i, e := range []api.Errno{e1, e2, e3, e4, e5, e6, e7} {
					if e != api.ErrArg {
						t.Error(i, e)
					}
				}
				if n2+n3+n4+n5+n6+n7+n8 != "" {
					t.Error("an answer beside an error")
				}
			}
		}
		_, e1 := Len(a)
		_, e2 := Low(a)
		_, e3 := Bit(a, -1)
		_, e4 := Shift(a, math.MaxInt)
		_, _, e5 := Root(a)
		s, e6 := Text(a)
		for i, e := range []api.Errno{e1, e2, e3, e4, e5, e6} {
			if e != api.ErrArg || s != "" {
				t.Error(i, e)
			}
		}
	}
}
