package lamin

import (
	"math/big"
	"math/rand"
	"slices"
	"testing"

	"filigree/angle"
	"filigree/api"
	"filigree/itin"
)

var none = api.Leaf{}

func a(num, den int64) api.Ratio {
	x, e := angle.Make(num, den)
	if e != api.OK {
		panic(e)
	}
	return x
}

func leaf(p, q, r, s int64) api.Leaf {
	l, e := Make(a(p, q), a(r, s))
	if e != api.OK {
		panic(e)
	}
	return l
}

func with(l ...api.Leaf) *Lamin {
	x := New()
	for _, m := range l {
		if e := x.Add(m); e != api.OK {
			panic(e)
		}
	}
	return x
}

func leaves(x *Lamin) []api.Leaf { return slices.Collect(x.Leaves()) }

func rat(x api.Ratio) *big.Rat {
	return new(big.Rat).SetFrac(new(big.Int).SetBytes([]byte(x.Num)), new(big.Int).SetBytes([]byte(x.Den)))
}

func less(x, y api.Ratio) bool { return rat(x).Cmp(rat(y)) < 0 }

// inside tells whether x lies between the leaf's ends.
func inside(x api.Ratio, l api.Leaf) bool { return less(l.A, x) && less(x, l.B) }

func crossing(l, m api.Leaf) bool {
	unlike := l.A != m.A && l.A != m.B && l.B != m.A && l.B != m.B
	return unlike && inside(m.A, l) != inside(m.B, l)
}

func parting(x, y api.Ratio, l []api.Leaf) bool {
	for _, m := range l {
		ends := x == m.A || x == m.B || y == m.A || y == m.B
		if !ends && inside(x, m) != inside(y, m) {
			return true
		}
	}
	return false
}

var bad = api.Ratio{Num: "\x01", Den: "\x01"}

func TestP23_1(t *testing.T) {
	for _, c := range []struct {
		l api.Leaf
		e api.Errno
	}{{api.Leaf{A: a(1, 3), B: a(2, 3)}, 0}, {api.Leaf{A: a(2, 3), B: a(1, 3)}, api.ErrArg}, {api.Leaf{A: a(1, 3), B: a(1, 3)}, api.ErrPoint}, {none, api.ErrAngle}, {api.Leaf{A: bad, B: a(1, 3)}, api.ErrAngle}, {api.Leaf{A: a(1, 3), B: bad}, api.ErrAngle}, {api.Leaf{A: bad, B: bad}, api.ErrAngle}} {
		if e := Check(c.l); e != c.e {
			t.Error(c, e)
		}
		if c.e != api.OK {
			is, e1 := Cross(c.l, leaf(1, 3, 2, 3))
			is2, e2 := Cross(leaf(1, 3, 2, 3), c.l)
			m, is3, e3 := Turn(c.l, 0)
			if is || is2 || is3 || m != none || e1 != c.e || e2 != c.e || e3 != c.e {
				t.Error(c, e1, e2, e3)
			}
			if x := New(); x.Add(c.l) != c.e || x.Len() != 0 || x.Has(c.l) {
				t.Error("Add", c)
			}
		}
	}
	if l, e := Make(a(2, 3), a(1, 3)); l != (api.Leaf{A: a(1, 3), B: a(2, 3)}) || e != api.OK {
		t.Error(l, e)
	}
	if l, e := Make(a(1, 3), a(1, 3)); l != none || e != api.ErrPoint {
		t.Error(l, e)
	}
	for _, p := range [][2]api.Ratio{{bad, a(1, 3)}, {a(1, 3), bad}, {bad, bad}} {
		if l, e := Make(p[0], p[1]); l != none || e != api.ErrAngle {
			t.Error(l, e)
		}
	}
	var all []api.Leaf
	for i := range int64(8) {
		for k := i + 1; k < 8; k++ {
			all = append(all, leaf(i, 8, k, 8))
		}
	}
	for _, l := range all {
		for _, m := range all {
			is, e := Cross(l, m)
			back, _ := Cross(m, l)
			if is != crossing(l, m) || back != is || e != api.OK {
				t.Error(l, m, is)
			}
			move := func(l api.Leaf) api.Leaf {
				x, _ := angle.Add(l.A, a(3, 11))
				y, _ := angle.Add(l.B, a(3, 11))
				l, _ = Make(x, y)
				return l
			}
			if moved, _ := Cross(move(l), move(m)); moved != is {
				t.Error("moved", l, m)
			}
		}
		for _, d := range []int{2, 3, 8} {
			x, _ := angle.Turn(l.A, d)
			y, _ := angle.Turn(l.B, d)
			want, f := Make(x, y)
			m, is, e := Turn(l, d)
			if m != want || is != (f == api.OK) || e != api.OK {
				t.Error(l, d, m, is)
			}
		}
	}
	if m, is, e := Turn(leaf(1, 7, 2, 7), 2); m != leaf(2, 7, 4, 7) || !is || e != api.OK {
		t.Error(m, is, e)
	}
	for _, d := range []int{1, 65, -2} {
		if m, is, e := Turn(leaf(1, 7, 2, 7), d); m != none || is || e != api.ErrArg {
			t.Error(m, is, e)
		}
	}
}

func TestP23_2_P23_6(t *testing.T) {
	h, e := Hull(a(1, 7), a(4, 7), a(2, 7), a(1, 7))
	if !slices.Equal(h, []api.Leaf{leaf(1, 7, 2, 7), leaf(1, 7, 4, 7), leaf(2, 7, 4, 7)}) || e != api.OK {
		t.Error(h, e)
	}
	h, _ = Hull(a(4, 5), a(0, 1), a(1, 5), a(3, 5))
	if !slices.Equal(h, []api.Leaf{leaf(0, 1, 1, 5), leaf(0, 1, 4, 5), leaf(1, 5, 3, 5), leaf(3, 5, 4, 5)}) {
		t.Error(h)
	}
	for _, l := range [][]api.Ratio{nil, {a(1, 3)}, {a(1, 3), a(1, 3)}} {
		if h, e := Hull(l...); len(h) != 0 || e != api.OK {
			t.Error(h, e)
		}
	}
	if h, e := Hull(a(2, 3), a(1, 3), a(2, 3)); !slices.Equal(h, []api.Leaf{leaf(1, 3, 2, 3)}) || e != api.OK {
		t.Error(h, e)
	}
	if h, e := Hull(slices.Repeat([]api.Ratio{bad}, 4097)...); h != nil || e != api.ErrLong {
		t.Error(e)
	}
	if h, e := Hull(a(1, 3), bad); h != nil || e != api.ErrAngle {
		t.Error(e)
	}
	some := 0
	for _, d := range []int{2, 3} {
		for _, by := range []api.Ratio{a(0, 1), a(1, 7), a(1, 6), a(1, 2), a(9, 56)} {
			for n := 1; n <= 6; n++ {
				l, _ := angle.All(d, n)
				l = append(l, a(1, 12), a(5, 12), a(7, 12), by, by)
				groups, e := Groups(by, d, l...)
				if e != api.OK {
					t.Fatal(e)
				}
				count := 0
				for i, g := range groups {
					row, _ := itin.Of(by, g[0], d)
					for k, x := range g {
						other, _ := itin.Of(by, x, d)
						if k > 0 && !less(g[k-1], x) || !slices.Equal(row.Period, other.Period) || !slices.Equal(row.Pre, other.Pre) || !slices.Contains(l, x) {
							t.Error(by, d, g)
						}
						count++
					}
					if i > 0 {
						row2, _ := itin.Of(by, groups[i-1][0], d)
						if !less(groups[i-1][0], g[0]) || slices.Equal(row.Period, row2.Period) && slices.Equal(row.Pre, row2.Pre) {
							t.Error("groups", by, d, i)
						}
					}
					if len(g) > 1 {
						some++
					}
				}
				if count != len(sorted(l)) {
					t.Error(by, d, count)
				}
				x, e := Of(by, d, l...)
				y := New()
				for _, g := range groups {
					h, _ := Hull(g...)
					for _, m := range h {
						if f := y.Add(m); f != api.OK {
							t.Error("hulls cross", by, d, f)
						}
					}
					for _, p := range g {
						if apart, _ := x.Apart(g[0], p); apart {
							t.Error("parts a group", by, d, g)
						}
					}
				}
				if e != api.OK || !slices.Equal(leaves(x), leaves(y)) {
					t.Error("Of", by, d, n)
				}
			}
		}
	}
	if some < 10 {
		t.Error("too few groups", some)
	}
	for _, c := range []struct {
		by api.Ratio
		d  int
		l  []api.Ratio
		e  api.Errno
	}{{bad, 2, []api.Ratio{a(1, 3)}, api.ErrAngle}, {a(0, 1), 2, []api.Ratio{a(1, 3), bad}, api.ErrAngle}, {a(0, 1), 1, []api.Ratio{a(1, 3)}, api.ErrArg}, {a(0, 1), 3, []api.Ratio{a(1, api.MaxDen), bad}, api.ErrMany}, {bad, 1, slices.Repeat([]api.Ratio{bad}, 4097), api.ErrLong}, {bad, 1, nil, api.OK}} {
		g, e := Groups(c.by, c.d, c.l...)
		x, f := Of(c.by, c.d, c.l...)
		if g != nil || e != c.e || f != c.e || (x != nil) != (c.e == api.OK) {
			t.Error(c.d, len(c.l), e, f)
		}
	}
}

func random(r *rand.Rand, n int) *Lamin {
	x := New()
	for range 60 {
		p, q := r.Int63n(24), r.Int63n(24)
		if p != q && x.Len() < n {
			x.Add(leaf(p, 24, q, 24))
		}
	}
	return x
}

func TestP23_3_P23_9(t *testing.T) {
	r := rand.New(rand.NewSource(30))
	for range 100 {
		x, all := New(), []api.Leaf{}
		for range 40 {
			p, q := r.Int63n(20), r.Int63n(20)
			if p == q {
				continue
			}
			l := leaf(p, 20, q, 20)
			want := api.OK
			if slices.ContainsFunc(all, func(m api.Leaf) bool { return crossing(l, m) }) {
				want = api.ErrCrosses
			}
			if e := x.Add(l); e != want {
				t.Fatal(l, e, want)
			}
			if want == api.OK && !slices.Contains(all, l) {
				all = append(all, l)
			}
			if x.Has(l) != (want == api.OK) || x.Len() != len(all) {
				t.Error(l, x.Has(l), x.Len())
			}
		}
		r.Shuffle(len(all), func(i, k int) { all[i], all[k] = all[k], all[i] })
		y := with(all...)
		slices.SortFunc(all, func(l, m api.Leaf) int {
			if c := rat(l.A).Cmp(rat(m.A)); c != 0 {
				return c
			}
			return rat(l.B).Cmp(rat(m.B))
		})
		if !slices.Equal(leaves(x), all) || !slices.Equal(leaves(y), all) {
			t.Error("order", leaves(x), leaves(y))
		}
	}
	x := with(leaf(1, 3, 2, 3))
	c := x.Copy()
	c.Add(leaf(1, 7, 2, 7))
	if x.Len() != 1 || c.Len() != 2 || x.Add(leaf(1, 7, 1, 2)) != api.ErrCrosses || x.Len() != 1 {
		t.Error("Copy, Add")
	}
	seq := c.Leaves()
	n := 0
	for l := range seq {
		c.Add(leaf(0, 1, 1, 15+int64(n)))
		if n++; l == none {
			t.Error(l)
		}
	}
	if n != 2 || len(slices.Collect(seq)) != 4 {
		t.Error("as they are when it begins", n)
	}
	for range seq {
		break
	}
	for _, x := range []*Lamin{nil, {}} {
		p, e1 := x.Apart(bad, bad)
		l, is, e2 := x.Open(0)
		if x.Add(none) != api.ErrNil || x.Has(leaf(0, 1, 1, 2)) || x.Len() != 0 || len(leaves(x)) != 0 || x.Copy() != nil || p || e1 != api.ErrNil || x.Gaps() != nil || l != none || is || e2 != api.ErrNil || x.Close(0) != api.ErrNil {
			t.Error("one that is none")
		}
	}
	full := New()
	for i := range int64(api.MaxLamin) {
		full.Add(leaf(i, 10000, 9999-i, 10000))
	}
	if full.Len() != api.MaxLamin || full.Add(leaf(0, 1, 1, 10000)) != api.ErrLong || full.Add(leaf(5, 10000, 9994, 10000)) != api.OK || full.Add(leaf(1, 20000, 1, 2)) != api.ErrCrosses || full.Len() != api.MaxLamin {
		t.Error("as many as may be", full.Len())
	}
}

func TestP23_4_P23_7(t *testing.T) {
	r := rand.New(rand.NewSource(31))
	for range 60 {
		x := random(r, 1+r.Intn(14))
		l := leaves(x)
		for range 60 {
			p, q := a(r.Int63n(48), 48), a(r.Int63n(48), 48)
			if is, e := x.Apart(p, q); is != parting(p, q, l) || e != api.OK {
				t.Error(l, p, q, is)
			}
		}
		var ends []api.Ratio
		for _, m := range l {
			ends = append(ends, m.A, m.B)
		}
		ends = sorted(ends)
		gaps := x.Gaps()
		var arcs []api.Arc
		sum := new(big.Rat)
		for i, g := range gaps {
			for k, arc := range g {
				arcs = append(arcs, arc)
				long := new(big.Rat).Sub(rat(arc.To), rat(arc.From))
				if long.Sign() <= 0 {
					long.Add(long, big.NewRat(1, 1))
				}
				sum.Add(sum, long)
				if k > 0 && !less(g[k-1].From, arc.From) || k == 0 && i > 0 && !less(gaps[i-1][0].From, arc.From) {
					t.Error("order", gaps)
				}
			}
		}
		if len(arcs) != max(1, len(ends)) || sum.Cmp(big.NewRat(1, 1)) != 0 || len(gaps) > len(l)+1 {
			t.Error(l, gaps)
		}
		middle := func(arc api.Arc) api.Ratio {
			y := new(big.Rat).Add(rat(arc.From), rat(arc.To))
			if !less(arc.From, arc.To) {
				y.Add(y, big.NewRat(1, 1))
			}
			y.Quo(y, big.NewRat(2, 1))
			z, _ := angle.Make(y.Num().Int64(), y.Denom().Int64())
			return z
		}
		for i, g := range gaps {
			for k, h := range gaps {
				for _, u := range g {
					for _, v := range h {
						if len(l) > 0 && parting(middle(u), middle(v), l) != (i != k) {
							t.Error(l, u, v)
						}
					}
				}
			}
		}
	}
	zero := a(0, 1)
	if g := New().Gaps(); len(g) != 1 || !slices.Equal(g[0], []api.Arc{{From: zero, To: zero}}) {
		t.Error(g)
	}
	g := with(leaf(1, 3, 2, 3)).Gaps()
	if len(g) != 2 || g[0][0] != (api.Arc{From: a(1, 3), To: a(2, 3)}) || g[1][0] != (api.Arc{From: a(2, 3), To: a(1, 3)}) {
		t.Error(g)
	}
	x := with(leaf(1, 3, 2, 3))
	if is, e := x.Apart(bad, zero); is || e != api.ErrAngle {
		t.Error(e)
	}
	if is, e := x.Apart(zero, bad); is || e != api.ErrAngle {
		t.Error(e)
	}
}

func TestP23_5_P23_8(t *testing.T) {
	x := with(leaf(1, 7, 2, 7))
	if l, is, e := x.Open(2); l != leaf(1, 7, 2, 7) || !is || e != api.OK {
		t.Error(l, is, e)
	}
	if e := x.Close(2); e != api.OK || !slices.Equal(leaves(x), []api.Leaf{leaf(1, 7, 2, 7), leaf(1, 7, 4, 7), leaf(2, 7, 4, 7)}) {
		t.Error(e, leaves(x))
	}
	if l, is, e := x.Open(2); l != none || is || e != api.OK || x.Close(2) != api.OK || x.Len() != 3 {
		t.Error(l, is, e)
	}
	if l, is, e := x.Open(3); l != leaf(1, 7, 2, 7) || !is || e != api.OK {
		t.Error("with other turns", l, is, e)
	}
	for _, d := range []int{1, 65} {
		l, is, e := x.Open(d)
		if l != none || is || e != api.ErrArg || x.Close(d) != api.ErrArg {
			t.Error(d, l, is, e)
		}
		l, is, e = New().Open(d)
		if l != none || is || e != api.OK || New().Close(d) != api.OK {
			t.Error("no leaves", d, l, is, e)
		}
	}
	crosses := with(leaf(1, 5, 3, 5))
	if e := crosses.Close(2); e != api.ErrCrosses || crosses.Len() != 1 {
		t.Error(e, crosses.Len())
	}
	point := with(leaf(0, 1, 1, 2))
	if l, is, e := point.Open(2); l != none || is || e != api.OK {
		t.Error(l, is, e)
	}
	r := rand.New(rand.NewSource(32))
	closed := 0
	for range 200 {
		x, den := New(), []int64{3, 7, 15, 31}[r.Intn(4)]
		for range 1 + r.Intn(2) {
			if p, q := r.Int63n(den), r.Int63n(den); p != q {
				x.Add(leaf(p, den, q, den))
			}
		}
		before := leaves(x)
		want := slices.Clone(before)
		var fault api.Errno
		for fault == api.OK {
			at := slices.IndexFunc(want, func(l api.Leaf) bool {
				m, is, _ := Turn(l, 2)
				return is && !slices.Contains(want, m)
			})
			l, is, e := with(want...).Open(2)
			if e != api.OK || is != (at >= 0) || is && l != want[at] {
				t.Fatal("Open", want, l, is, e)
			}
			if at < 0 {
				break
			}
			m, _, _ := Turn(want[at], 2)
			if slices.ContainsFunc(want, func(l api.Leaf) bool { return crossing(l, m) }) {
				fault = api.ErrCrosses
				break
			}
			want = leaves(with(append(want, m)...))
		}
		if fault != api.OK {
			want = before
		} else {
			closed++
		}
		if e := x.Close(2); e != fault || !slices.Equal(leaves(x), want) {
			t.Error(before, e, fault)
		}
	}
	if closed < 5 {
		t.Error("too few closed", closed)
	}
	// the orbit of a short leaf has more members than may be
	long := with(leaf(1, 40009, 2, 40009))
	if e := long.Close(2); e != api.ErrLong && e != api.ErrCrosses || long.Len() != 1 {
		t.Error(e, long.Len())
	}
}
