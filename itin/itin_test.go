package itin

import (
	"bytes"
	"math"
	"math/big"
	"math/rand"
	"slices"
	"strings"
	"testing"

	"filigree/angle"
	"filigree/api"
)

func a(num, den int64) api.Ratio {
	x, e := angle.Make(num, den)
	if e != api.OK {
		panic(e)
	}
	return x
}

func row(s string) api.Itin {
	x, e := Read(s)
	if e != api.OK {
		panic(s)
	}
	return x
}

func text(s api.Itin) string {
	x, e := Text(s)
	if e != api.OK {
		panic(e)
	}
	return x
}

func rat(x api.Ratio) *big.Rat {
	return new(big.Rat).SetFrac(new(big.Int).SetBytes([]byte(x.Num)), new(big.Int).SetBytes([]byte(x.Den)))
}

// part is the symbol by the arcs themselves.
func part(by, x api.Ratio, d int) uint8 {
	t, y := rat(by), rat(x)
	for k := range int64(d) {
		from, to := new(big.Rat).Add(t, big.NewRat(k-1, 1)), new(big.Rat).Add(t, big.NewRat(k, 1))
		from.Quo(from, big.NewRat(int64(d), 1))
		to.Quo(to, big.NewRat(int64(d), 1))
		if y.Cmp(from) > 0 && y.Cmp(to) < 0 {
			return uint8(k)
		}
		if k == 0 && y.Cmp(from.Add(from, big.NewRat(1, 1))) > 0 {
			return 0
		}
	}
	return api.Star
}

func rows() []api.Itin {
	l := []api.Itin{row("(0)"), row("(*)"), row("1 (1 0)"), row("0 1 2 (63 * 5)"), row("(1 1)"), row("1 0 (1 0)"), row("3 3 3 (3)"), row("(1 0 1 0 1 0)"), row("0 1 0 1 (0 1)"), row("5 0 1 (0 1)")}
	r := rand.New(rand.NewSource(29))
	for range 60 {
		var x api.Itin
		for range r.Intn(6) {
			x.Pre = append(x.Pre, uint8(r.Intn(2)))
		}
		for range 1 + r.Intn(6) {
			x.Period = append(x.Period, uint8(r.Intn(2)))
		}
		l = append(l, x)
	}
	return l
}

func wrong() []api.Itin {
	return []api.Itin{{}, {Pre: []uint8{1}}, {Period: []uint8{64}}, {Period: []uint8{254}}, {Pre: []uint8{64}, Period: []uint8{1}}, {Period: make([]uint8, 4097)}, {Pre: make([]uint8, 4096), Period: make([]uint8, 1)}}
}

func TestP22_1_P22_6_P22_7(t *testing.T) {
	for _, d := range []int{2, 3, 5, 64} {
		for _, by := range []api.Ratio{a(0, 1), a(1, 7), a(1, 2), a(5, 6), a(3, 31), a(12, 13)} {
			stars := 0
			for k := range int64(7 * 64 * 3) {
				x := a(k, 7*64*3)
				s, e := Symbol(by, x, d)
				if s != part(by, x, d) || e != api.OK {
					t.Fatal(by, x, d, s, e)
				}
				turned, _ := angle.Turn(x, d)
				if (s == api.Star) != (turned == by) {
					t.Error("Star", by, x, d)
				}
				if s == api.Star {
					stars++
				}
			}
			for _, x := range []api.Ratio{a(1, 7), a(1, 6), a(3, 40), by} {
				of, e := Of(by, x, d)
				if e != api.OK || Check(of) != api.OK {
					t.Fatal(by, x, d, e)
				}
				y := x
				for n := range 40 {
					s, _ := Symbol(by, y, d)
					if c, _ := At(of, n); c != s {
						t.Error(by, x, d, n)
					}
					y, _ = angle.Turn(y, d)
				}
				if low, _ := Lowest(of); text(low) != text(of) {
					t.Error("not in lowest form", text(of))
				}
				next, _ := angle.Turn(x, d)
				turned, _ := Of(by, next, d)
				if shifted, _ := Shift(of, 1); text(turned) != text(shifted) {
					t.Error("turned is shifted", by, x, d)
				}
			}
			k, e := Knead(by, d)
			of, _ := Of(by, by, d)
			if text(k) != text(of) || e != api.OK {
				t.Error("Knead", by, d)
			}
			pre, period, _ := angle.Kind(by, d)
			for n := range pre + 2*period {
				if c, _ := At(k, n); (c == api.Star) != (pre == 0 && n%period == period-1) {
					t.Error("Stars", by, d, n)
				}
			}
		}
	}
	for _, c := range []struct {
		by, x api.Ratio
		d     int
		want  string
	}{{a(1, 7), a(0, 1), 2, "(0)"}, {a(1, 7), a(1, 14), 2, "(* 1 1)"}, {a(1, 7), a(1, 7), 2, "(1 1 *)"}, {a(1, 5), a(1, 5), 2, "(1 1 0 *)"}, {a(1, 6), a(1, 6), 2, "1 (1 0)"}, {a(0, 1), a(0, 1), 2, "(*)"}} {
		if of, e := Of(c.by, c.x, c.d); text(of) != c.want || e != api.OK {
			t.Error(c, text(of), e)
		}
	}
	for _, c := range []struct {
		by, x api.Ratio
		d     int
		want  uint8
	}{{a(1, 7), a(0, 1), 2, 0}, {a(1, 7), a(1, 7), 2, 1}, {a(1, 7), a(4, 7), 2, api.Star}, {a(0, 1), a(1, 2), 2, api.Star}, {a(0, 1), a(1, 3), 3, api.Star}, {a(1, 2), a(1, 4), 3, 1}, {a(1, 2), a(9, 10), 3, 0}} {
		if s, e := Symbol(c.by, c.x, c.d); s != c.want || e != api.OK {
			t.Error(c, s, e)
		}
	}
	bad := api.Ratio{Num: "\x01", Den: "\x01"}
	for _, c := range []struct {
		by, x api.Ratio
		d     int
		e     api.Errno
	}{{bad, a(0, 1), 0, api.ErrAngle}, {a(0, 1), bad, 0, api.ErrAngle}, {a(0, 1), a(0, 1), 1, api.ErrArg}, {a(0, 1), a(0, 1), 65, api.ErrArg}, {a(0, 1), a(0, 1), -1, api.ErrArg}} {
		s, e := Symbol(c.by, c.x, c.d)
		of, f := Of(c.by, c.x, c.d)
		if s != 0 || of.Pre != nil || of.Period != nil || e != c.e || f != c.e {
			t.Error(c, e, f)
		}
	}
	if of, e := Knead(a(1, api.MaxDen), 3); of.Period != nil || e != api.ErrMany {
		t.Error(e)
	}
	if _, e := Knead(a(1, 4099), 2); e != api.ErrMany { // its period is 4098
		t.Error(e)
	}
	if of, e := Knead(a(1, 4093), 2); len(of.Period) != 4092 || e != api.OK {
		t.Error(len(of.Period), e)
	}
	if s, e := Knead(bad, 2); s.Period != nil || e != api.ErrAngle {
		t.Error(e)
	}
}

func TestP22_2_P22_9(t *testing.T) {
	for _, x := range rows() {
		if Check(x) != api.OK {
			t.Error(x)
		}
		low, e := Lowest(x)
		if e != api.OK || Check(low) != api.OK {
			t.Fatal(x, e)
		}
		for n := range 60 {
			c, e := At(x, n)
			d, _ := At(low, n)
			want := uint8(0)
			if n < len(x.Pre) {
				want = x.Pre[n]
			} else {
				want = x.Period[(n-len(x.Pre))%len(x.Period)]
			}
			if c != want || d != want || e != api.OK {
				t.Error(x, low, n)
			}
		}
		// no row that is the same is shorter
		long := slices.Concat(x.Pre, slices.Repeat(x.Period, 40))
		for p := 1; p <= len(low.Period); p++ {
			for pre := 0; pre <= len(x.Pre)+1; pre++ {
				same := true
				for n := pre + p; n < 150 && n < len(long); n++ {
					same = same && long[n] == long[n-p]
				}
				if same && (p < len(low.Period) || pre < len(low.Pre)) {
					t.Error("not lowest", x, low, pre, p)
				}
			}
		}
		again, _ := Lowest(low)
		if text(again) != text(low) {
			t.Error(low, again)
		}
		for _, n := range []int{0, 1, 2, 3, 7, 12, 1000003} {
			s, e := Shift(x, n)
			form, _ := Lowest(s)
			if e != api.OK || text(form) != text(s) {
				t.Error(x, n, s, e)
			}
			for k := range 30 {
				c, _ := At(s, k)
				if d, _ := At(x, k+n); c != d {
					t.Error(x, n, k)
				}
			}
		}
		if s, e := Shift(x, math.MaxInt); e != api.OK || len(s.Pre) != 0 {
			t.Error(s, e)
		}
		old := text(x)
		for i := range low.Period {
			low.Period[i] = 9
		}
		s, _ := Shift(x, 0)
		s.Period[0] = 9
		if text(x) != old {
			t.Error("shares its memory")
		}
	}
	if c, _ := At(row("(1 1 *)"), 5); c != api.Star {
		t.Error(c)
	}
	if s, _ := Shift(row("1 (1 0)"), 2); text(s) != "(0 1)" {
		t.Error(s)
	}
	for _, n := range []int{-1, math.MinInt} {
		c, e := At(row("(1)"), n)
		s, f := Shift(row("(1)"), n)
		if c != 0 || s.Period != nil || e != api.ErrArg || f != api.ErrArg {
			t.Error(n, e, f)
		}
	}
	for _, x := range wrong() {
		l, e1 := Lowest(x)
		c, e2 := At(x, -1)
		s, e3 := Shift(x, -1)
		n, ok, e4 := Differ(x, row("(1)"))
		_, _, e5 := Differ(row("(1)"), x)
		k, ok2, e6 := Rho(x, 0)
		m, all, e7 := Address(x, 0)
		y, e8 := Text(x)
		for i, e := range []api.Errno{Check(x), e1, e2, e3, e4, e5, e6, e7, e8} {
			if e != api.ErrItin {
				t.Error(i, e)
			}
		}
		if l.Period != nil || s.Period != nil || int(c)+n+k+len(m)+len(y) != 0 || ok || ok2 || all {
			t.Error("an answer beside an error")
		}
	}
	if Check(api.Itin{Pre: make([]uint8, 4095), Period: []uint8{api.Star}}) != api.OK {
		t.Error("as long as may be")
	}
}

func TestP22_3(t *testing.T) {
	for _, x := range rows() {
		for _, y := range rows() {
			want, found := 0, false
			for n := range 100 {
				c, _ := At(x, n)
				if d, _ := At(y, n); c != d && !found {
					want, found = n, true
				}
			}
			if n, ok, e := Differ(x, y); n != want || ok != found || e != api.OK {
				t.Error(x, y, n, ok, e)
			}
			p, _ := Lowest(x)
			q, _ := Lowest(y)
			if found == (text(p) == text(q)) {
				t.Error("Lowest", x, y)
			}
		}
	}
	if n, ok, _ := Differ(row("(1 1 *)"), row("1 1 (*)")); n != 3 || !ok {
		t.Error(n, ok)
	}
	// rows whose first difference lies as far as can be
	x := api.Itin{Period: append(bytes.Repeat([]byte{1}, 20), 0)}
	y := api.Itin{Period: slices.Concat(x.Period, x.Period[:20], []uint8{1})}
	if n, ok, _ := Differ(x, y); n != 41 || !ok {
		t.Error(n, ok)
	}
}

func TestP22_4_P22_8(t *testing.T) {
	for _, x := range append(rows(), row("(1 1 *)"), row("(1 1 0 *)")) {
		low, _ := Lowest(x)
		for n := 1; n < 30; n++ {
			want, found := 0, false
			for k := n + 1; k < n+200 && !found; k++ {
				c, _ := At(x, k-1)
				if d, _ := At(x, k-n-1); c != d {
					want, found = k, true
				}
			}
			k, ok, e := Rho(x, n)
			if k != want || ok != found || e != api.OK {
				t.Error(x, n, k, ok, want)
			}
			if m, is, _ := Rho(low, n); m != k || is != ok {
				t.Error("the same row", x, n)
			}
		}
		l, all, e := Address(x, 20)
		if e != api.OK || l[0] != 1 {
			t.Error(x, l, e)
		}
		for i, n := range l {
			k, ok, _ := Rho(x, n)
			if i+1 < len(l) && (!ok || l[i+1] != k || k <= n) || i+1 == len(l) && all == ok {
				t.Error(x, l, all)
			}
		}
		if m, is, _ := Address(low, 20); !slices.Equal(l, m) || is != all {
			t.Error("the same row", x)
		}
		if m, is, _ := Address(x, 1); len(m) != 1 || is != (len(l) == 1 && all) {
			t.Error(x, m, is)
		}
	}
	for _, c := range []struct {
		s    string
		most int
		want []int
		all  bool
	}{{"(1 1 *)", 10, []int{1, 3}, true}, {"(1 1 *)", 2, []int{1, 3}, true}, {"(1 1 *)", 1, []int{1}, false}, {"(1 1 0 *)", 10, []int{1, 3, 4}, true}, {"1 (1 0)", 10, []int{1, 3, 5, 7, 9, 11, 13, 15, 17, 19}, false}, {"(*)", 10, []int{1}, true}} {
		if l, all, e := Address(row(c.s), c.most); !slices.Equal(l, c.want) || all != c.all || e != api.OK {
			t.Error(c, l, all, e)
		}
	}
	l, all, e := Address(row("1 (1 0)"), api.MaxItin)
	if len(l) != 2048 || l[2047] != 4095 || all || e != api.OK {
		t.Error(len(l), all, e)
	}
	for _, n := range []int{0, -1, 4097, math.MinInt} {
		k, ok, e := Rho(row("(1 0)"), n)
		l, all, f := Address(row("(1 0)"), n)
		if k != 0 || ok || l != nil || all || e != api.ErrArg || f != api.ErrArg {
			t.Error(n, e, f)
		}
	}
	if k, ok, e := Rho(row("(1 0)"), api.MaxItin); k != 0 || ok || e != api.OK {
		t.Error(k, ok, e)
	}
	for _, d := range []int{2, 3} {
		for n := 2; n <= 6; n++ {
			all, _ := angle.All(d, n)
			for _, x := range all {
				k, _ := Knead(x, d)
				if l, whole, _ := Address(k, 100); !whole || l[len(l)-1] != n {
					t.Error(d, x, l, whole)
				}
			}
		}
	}
}

func TestP22_5Texts(t *testing.T) {
	for _, x := range rows() {
		s := text(x)
		y, e := Read(s)
		if !slices.Equal(x.Pre, y.Pre) || !slices.Equal(x.Period, y.Period) || e != api.OK {
			t.Error(x, s, y, e)
		}
	}
	for _, c := range []struct {
		s           string
		pre, period []uint8
	}{{"(1)", nil, []uint8{1}}, {"(*)", nil, []uint8{api.Star}}, {"(63)", nil, []uint8{63}}, {"1 (1 0)", []uint8{1}, []uint8{1, 0}}, {"* 10 (0)", []uint8{api.Star, 10}, []uint8{0}}, {"(1 1)", nil, []uint8{1, 1}}, {"0 1 2 (63 * 5)", []uint8{0, 1, 2}, []uint8{63, api.Star, 5}}} {
		if x, e := Read(c.s); !slices.Equal(x.Pre, c.pre) || !slices.Equal(x.Period, c.period) || e != api.OK {
			t.Error(c, x, e)
		}
	}
	if s := text(api.Itin{Pre: []uint8{0, api.Star}, Period: []uint8{63, 10}}); s != "0 * (63 10)" {
		t.Error(s)
	}
	for _, s := range []string{"", "()", "1(0)", "( 1)", "(1 )", "(1  1)", " (1)", "(1) ", "1  (1)", "(64)", "(255)", "(01)", "(00)", "(1", "1)", "(1)(1)", "(1*)", "(*1)", "(**)", "(-1)", "(+1)", "1 2", "(1\t1)", "((1))", "(100)", "(é)", "(1))", strings.Repeat("0 ", 4096) + "(1)"} {
		if x, e := Read(s); x.Pre != nil || x.Period != nil || e != api.ErrItin {
			t.Error(s, x, e)
		}
	}
	if x, e := Read(strings.Repeat("x", 4*api.MaxItin+1)); x.Period != nil || e != api.ErrLong {
		t.Error(e)
	}
	if _, e := Read(strings.Repeat("x", 4*api.MaxItin)); e != api.ErrItin {
		t.Error(e)
	}
	long := api.Itin{Pre: bytes.Repeat([]byte{63}, 4000), Period: bytes.Repeat([]byte{42}, 96)}
	if x, e := Read(text(long)); !slices.Equal(x.Pre, long.Pre) || e != api.OK {
		t.Error(e)
	}
}
