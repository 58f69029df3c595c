package angle

import (
	"math"
	"math/big"
	"math/rand"
	"slices"
	"testing"

	"filigree/api"
	"filigree/nat"
)

var none = api.Ratio{}

func a(num, den int64) api.Ratio {
	x, e := Make(num, den)
	if e != api.OK {
		panic(e)
	}
	return x
}

func rat(x api.Ratio) *big.Rat {
	return new(big.Rat).SetFrac(new(big.Int).SetBytes([]byte(x.Num)), new(big.Int).SetBytes([]byte(x.Den)))
}

// turned is x times d, less its whole part.
func turned(x *big.Rat, d int64) *big.Rat {
	y := new(big.Rat).Mul(x, big.NewRat(d, 1))
	whole := new(big.Int).Quo(y.Num(), y.Denom())
	return y.Sub(y, new(big.Rat).SetInt(whole))
}

func wrong() []api.Ratio {
	return []api.Ratio{{}, {Num: "\x01", Den: "\x01"}, {Neg: true, Num: "\x01", Den: "\x02"}, {Num: "\x02", Den: "\x04"}, {Den: "\x02"}, {Neg: true, Den: "\x01"}, {Num: "\x01", Den: "\x80\x00\x00\x00"}, {Num: "\x03", Den: "\x02"}, {Num: "\x00\x01", Den: "\x02"}, {Num: "\x01", Den: "\x00\x02"}, {Num: "\x01", Den: "\x01\x00\x00\x00\x00\x00\x00\x00\x01"}}
}

func angles() []api.Ratio {
	l := []api.Ratio{a(0, 1), a(1, 2), a(1, 3), a(2, 3), a(1, 7), a(1, 6), a(1, 4), a(1, 12), a(5, 96), a(1, api.MaxDen), a(api.MaxDen-1, api.MaxDen), a(1, 1<<30), a(12345, 65536*3*7)}
	r := rand.New(rand.NewSource(28))
	for range 60 {
		den := int64(1 + r.Intn(500))
		l = append(l, a(r.Int63n(den), den))
	}
	return l
}

func TestP21_1(t *testing.T) {
	for _, x := range angles() {
		if Check(x) != api.OK {
			t.Error(x)
		}
	}
	for _, x := range wrong() {
		if Check(x) != api.ErrAngle {
			t.Error(x)
		}
	}
	for _, c := range []struct {
		num, den int64
		n, d     int64
		e        api.Errno
	}{{1, 3, 1, 3, 0}, {-1, 4, 3, 4, 0}, {7, 2, 1, 2, 0}, {1, 0, 0, 0, api.ErrArg}, {1, -3, 0, 0, api.ErrArg}, {1, 1 << 31, 0, 0, api.ErrArg}, {2, 1 << 31, 0, 0, api.ErrArg}, {math.MinInt64, 3, 1, 3, 0}, {math.MaxInt64, 2, 1, 2, 0}, {6, 4, 1, 2, 0}, {-6, 3, 0, 1, 0}, {5, 5, 0, 1, 0}} {
		x, e := Make(c.num, c.den)
		if e != c.e || e != api.OK && x != none || e == api.OK && (rat(x).Cmp(big.NewRat(c.n, c.d)) != 0 || Check(x) != api.OK) {
			t.Error(c, x, e)
		}
	}
	l := angles()
	for _, x := range l {
		for _, y := range l {
			if c, e := Cmp(x, y); c != rat(x).Cmp(rat(y)) || e != api.OK {
				t.Error(x, y, c, e)
			}
			want := new(big.Rat).Add(rat(x), rat(y))
			want = turned(want, 1)
			z, e := Add(x, y)
			if long := want.Denom().Cmp(big.NewInt(api.MaxDen)) > 0; long && (z != none || e != api.ErrAngle) || !long && (rat(z).Cmp(want) != 0 || e != api.OK || Check(z) != api.OK) {
				t.Error(x, y, z, e)
			}
		}
	}
}

func TestP21_2_P21_3_P21_8(t *testing.T) {
	for _, x := range angles() {
		for _, d := range []int{2, 3, 7, 10, 64} {
			y := rat(x)
			pre, period, e := Kind(x, d)
			if e != api.OK || period < 1 || pre < 0 {
				t.Fatal(x, d, pre, period, e)
			}
			n := 0
			var members []*big.Rat
			for z := range Orbit(x, d) {
				if rat(z).Cmp(y) != 0 {
					t.Fatal("Orbit", x, d, n)
				}
				members = append(members, y)
				if w, e := Turns(x, d, n); w != z || e != api.OK {
					t.Fatal("Turns", x, d, n)
				}
				y = turned(y, int64(d))
				if w, e := Turn(z, d); rat(w).Cmp(y) != 0 || e != api.OK || Check(w) != api.OK {
					t.Fatal("Turn", z, d)
				}
				if n++; n > 3000 {
					break
				}
			}
			if n <= 3000 {
				met := map[string]int{}
				for i, m := range members {
					if _, ok := met[m.String()]; ok {
						t.Error("a member twice", x, d)
					}
					met[m.String()] = i
				}
				if from, ok := met[y.String()]; n != pre+period || !ok || from != pre {
					t.Error("Kind", x, d, pre, period, n, from)
				}
			}
			if w, e := Turns(x, d, math.MaxInt); e != api.OK || Check(w) != api.OK {
				t.Error(x, d, w, e)
			} else if n <= 3000 {
				at := pre + (math.MaxInt-pre)%period
				if rat(w).Cmp(members[at]) != 0 {
					t.Error("far", x, d)
				}
			}
			l, e := Back(x, d)
			if den := new(big.Int).Mul(rat(x).Denom(), big.NewInt(int64(d))); e == api.OK {
				if len(l) != d {
					t.Error(x, d, l)
				}
				for k, z := range l {
					w, _ := Turn(z, d)
					if w != x || rat(z).Cmp(big.NewRat(int64(k), int64(d))) < 0 || rat(z).Cmp(big.NewRat(int64(k+1), int64(d))) >= 0 {
						t.Error("Back", x, d, z)
					}
				}
			} else if l != nil || e != api.ErrAngle || den.Cmp(big.NewInt(api.MaxDen)) <= 0 {
				t.Error("Back", x, d, l, e)
			}
		}
	}
	for _, c := range []struct{ num, den, d, pre, period int64 }{{1, 3, 2, 0, 2}, {1, 6, 2, 1, 2}, {1, 4, 2, 2, 1}, {0, 1, 2, 0, 1}, {1, 5, 3, 0, 4}, {1, 7, 2, 0, 3}, {1, api.MaxDen, 2, 0, 31}, {1, api.MaxDen, 3, 0, 715827882}, {1, 1 << 30, 2, 30, 1}, {1, 1 << 30, 64, 5, 1}} {
		if pre, period, e := Kind(a(c.num, c.den), int(c.d)); int64(pre) != c.pre || int64(period) != c.period || e != api.OK {
			t.Error(c, pre, period, e)
		}
	}
	for x := range Orbit(a(1, api.MaxDen), 3) {
		if x != a(1, api.MaxDen) {
			t.Error(x)
		}
		break
	}
}

func TestP21_4_P21_9(t *testing.T) {
	for _, d := range []int{2, 3, 5, 64} {
		for n := 1; n <= 24; n++ {
			sum := new(big.Int)
			for k := 1; k <= n; k++ {
				if n%k == 0 {
					c, e := Count(d, k)
					if e != api.OK {
						t.Fatal(e)
					}
					sum.Add(sum, new(big.Int).SetBytes([]byte(c)))
				}
			}
			all := new(big.Int).Exp(big.NewInt(int64(d)), big.NewInt(int64(n)), nil)
			if sum.Cmp(all.Sub(all, big.NewInt(1))) != 0 {
				t.Error("Count", d, n)
			}
			count, _ := Count(d, n)
			many, ok := nat.Small(count)
			l, e := All(d, n)
			if !ok || many > api.MaxAngles {
				if l != nil || e != api.ErrMany {
					t.Error("All", d, n, e)
				}
				continue
			}
			if uint64(len(l)) != many || e != api.OK {
				t.Error("All", d, n, len(l), many, e)
			}
			for i, x := range l {
				pre, period, _ := Kind(x, d)
				if pre != 0 || period != n || i > 0 && rat(l[i-1]).Cmp(rat(x)) >= 0 {
					t.Error("All", d, n, x)
				}
			}
		}
	}
	for _, c := range [][2]int{{1, 1}, {65, 1}, {2, 0}, {2, -1}, {2, 1025}, {-2, 3}} {
		x, e := Count(c[0], c[1])
		l, f := All(c[0], c[1])
		if x != "" || l != nil || e != api.ErrArg || f != api.ErrArg {
			t.Error(c, e, f)
		}
	}
	if x, e := Count(64, 1024); len(x) != 768 || e != api.OK {
		t.Error(len(x), e)
	}
	if _, e := All(2, 1024); e != api.ErrMany {
		t.Error(e)
	}
	if l, e := All(2, 2); !slices.Equal(l, []api.Ratio{a(1, 3), a(2, 3)}) || e != api.OK {
		t.Error(l, e)
	}
	if l, e := All(3, 1); !slices.Equal(l, []api.Ratio{a(0, 1), a(1, 2)}) || e != api.OK {
		t.Error(l, e)
	}
}

func TestP21_5_P21_11(t *testing.T) {
	for _, c := range []struct {
		a, x, b api.Ratio
		is      bool
	}{{a(1, 4), a(1, 2), a(3, 4), true}, {a(3, 4), a(0, 1), a(1, 4), true}, {a(1, 4), a(1, 4), a(3, 4), false}, {a(1, 4), a(3, 4), a(3, 4), false}, {a(0, 1), a(1, 2), a(0, 1), true}, {a(0, 1), a(0, 1), a(0, 1), false}, {a(3, 4), a(1, 2), a(1, 4), false}, {a(3, 4), a(1, 4), a(1, 4), false}, {a(3, 4), a(7, 8), a(1, 4), true}} {
		if is, e := Between(c.a, c.x, c.b); is != c.is || e != api.OK {
			t.Error(c, is, e)
		}
	}
	var l []api.Ratio
	for k := range int64(9) {
		l = append(l, a(k, 9))
	}
	for _, x := range l {
		for _, y := range l {
			for _, z := range l {
				p, _ := Between(x, y, z)
				q, _ := Between(z, y, x)
				if x != y && y != z && x != z && p == q {
					t.Error("just one", x, y, z)
				}
				for _, s := range []api.Ratio{a(1, 9), a(5, 7)} {
					x1, _ := Add(x, s)
					y1, _ := Add(y, s)
					z1, _ := Add(z, s)
					if r, _ := Between(x1, y1, z1); r != p {
						t.Error("turned on", x, y, z)
					}
				}
			}
		}
	}
}

func TestP21_6_P21_10(t *testing.T) {
	for _, x := range angles() {
		for _, d := range []int{2, 3, 10, 64} {
			y := rat(x)
			l, e := Digits(x, d, 50)
			if len(l) != 50 || e != api.OK {
				t.Fatal(x, e)
			}
			for k, c := range l {
				whole := new(big.Rat).Mul(y, big.NewRat(int64(d), 1))
				if new(big.Int).Quo(whole.Num(), whole.Denom()).Int64() != int64(c) {
					t.Error(x, d, k, c)
				}
				y = turned(y, int64(d))
			}
			next, _ := Turn(x, d)
			if m, _ := Digits(next, d, 49); !slices.Equal(m, l[1:]) {
				t.Error("turned", x, d)
			}
			pre, period, _ := Kind(x, d)
			if pre+period > api.MaxDigits {
				continue
			}
			l, _ = Digits(x, d, pre+period)
			if back, e := Of(d, l[:pre], l[pre:]); back != x || e != api.OK {
				t.Error("Of", x, d, back, e)
			}
		}
	}
	for _, c := range []struct {
		d           int
		pre, period []uint8
		want        api.Ratio
		e           api.Errno
	}{{2, []uint8{0}, []uint8{0, 1}, a(1, 6), 0}, {2, nil, []uint8{1}, a(0, 1), 0}, {2, []uint8{0}, []uint8{1}, a(1, 2), 0}, {2, nil, nil, none, api.ErrArg}, {2, []uint8{5}, nil, none, api.ErrArg}, {1, nil, []uint8{0}, none, api.ErrArg}, {65, nil, []uint8{0}, none, api.ErrArg}, {2, nil, []uint8{2}, none, api.ErrDigit}, {2, []uint8{2}, []uint8{1}, none, api.ErrDigit}, {2, make([]uint8, 1024), []uint8{9}, none, api.ErrLong}, {2, make([]uint8, 1023), []uint8{1}, none, api.ErrAngle}, {2, make([]uint8, 1023), []uint8{0}, a(0, 1), 0}, {2, []uint8{1, 1}, []uint8{1}, a(0, 1), 0}, {64, []uint8{63}, []uint8{62, 63}, a(63*4095+62*64+63, 64*4095), 0}, {2, nil, append(make([]uint8, 30), 1), a(1, api.MaxDen), 0}, {2, nil, append(make([]uint8, 31), 1), none, api.ErrAngle}} {
		if x, e := Of(c.d, c.pre, c.period); x != c.want || e != c.e {
			t.Error(c.d, len(c.pre), c.period, x, e)
		}
	}
	for _, c := range []struct {
		n int
		e api.Errno
	}{{-1, api.ErrArg}, {math.MinInt, api.ErrArg}, {1025, api.ErrLong}, {math.MaxInt, api.ErrLong}, {0, api.OK}} {
		if l, e := Digits(a(1, 3), 2, c.n); len(l) != 0 || e != c.e {
			t.Error(c, l, e)
		}
	}
}

func TestWrongAngles(t *testing.T) {
	half := a(1, 2)
	check := func(l ...api.Errno) {
		t.Helper()
		for i, e := range l {
			if e != api.ErrAngle {
				t.Error(i, e)
			}
		}
	}
	for _, x := range wrong() {
		_, e1 := Cmp(x, half)
		_, e2 := Cmp(half, x)
		_, e3 := Add(x, half)
		_, e4 := Add(half, x)
		_, e5 := Turn(x, 0)
		_, e6 := Turns(x, 0, -1)
		_, e7 := Back(x, 0)
		_, _, e8 := Kind(x, 0)
		_, e9 := Between(x, half, half)
		_, e10 := Between(half, x, half)
		_, e11 := Between(half, half, x)
		_, e12 := Digits(x, 0, -1)
		check(e1, e2, e3, e4, e5, e6, e7, e8, e9, e10, e11, e12)
		for range Orbit(x, 2) {
			t.Error("an orbit of none")
		}
	}
	for _, d := range []int{1, 0, -2, 65, math.MinInt, math.MaxInt} {
		x1, e1 := Turn(half, d)
		x2, e2 := Turns(half, d, 5)
		l1, e3 := Back(half, d)
		_, p, e4 := Kind(half, d)
		l2, e5 := Digits(half, d, 9999)
		if x1 != none || x2 != none || l1 != nil || l2 != nil || p != 0 || min(e1, e2, e3, e4, e5) != api.ErrArg || max(e1, e2, e3, e4, e5) != api.ErrArg {
			t.Error(d, e1, e2, e3, e4, e5)
		}
		for range Orbit(half, d) {
			t.Error("an orbit by no turns")
		}
	}
	if x, e := Turns(half, 2, -1); x != none || e != api.ErrArg {
		t.Error(x, e)
	}
}
