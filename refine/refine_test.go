package refine

import (
	"math"
	"math/big"
	"math/rand"
	"strings"
	"testing"

	"filigree/api"
	"filigree/ball"
	"filigree/dyad"
	"filigree/gauss"
	"filigree/status"
	"filigree/trap"
	"filigree/view"
)

// by tells what a function tells.
type by func(b api.Ball) api.Told

func (f by) Tell(b api.Ball) api.Told { return f(b) }

func example(b api.Ball) api.Told {
	switch {
	case real(b.C) > 1:
		return api.Out
	case b.R < 0.5:
		return api.In
	}
	return api.Unknown
}

func disc(b api.Ball) api.Told {
	one := api.Ball{C: 0.3, R: 1}
	switch {
	case ball.Inside(b, one):
		return api.In
	case ball.Apart(b, one):
		return api.Out
	}
	return api.Unknown
}

func never(api.Ball) api.Told { return api.Unknown }

func d(n int64, exp int) api.Dyad {
	x, e := dyad.Of(n, exp)
	if e != api.OK {
		panic(e)
	}
	return x
}

func g(x, y float64) api.Gauss {
	z, e := gauss.Complex(complex(x, y))
	if e != api.OK {
		panic(e)
	}
	return z
}

func tree(s api.Square, j api.Judge) *Tree {
	t, e := New(s, j)
	if e != api.OK {
		panic(e)
	}
	return t
}

var (
	root = api.Square{Exp: 1}
	bad  = api.Square{Exp: 5000}
	wide = api.Square{Left: d(-2, 0), Low: d(-2, 0), Exp: 2}
)

func counts(t *Tree) [3]int {
	in, out, unknown := t.Counts()
	return [3]int{in, out, unknown}
}

func TestExamples(t *testing.T) {
	x := tree(root, by(example))
	if counts(x) != [3]int{0, 0, 1} || x.Bytes() != "u" || x.Depth() != 0 || x.Square() != root {
		t.Error(counts(x), x.Bytes())
	}
	if n, e := x.Step(); n != 1 || e != api.OK || x.Bytes() != "puouo" || x.Depth() != 1 {
		t.Error(n, e, x.Bytes())
	}
	in, out, unknown, e := x.Areas()
	if in != (api.Dyad{}) || out != d(2, 0) || unknown != d(2, 0) || e != api.OK {
		t.Error(in, out, unknown, e)
	}
	if low, high, e := x.Bounds(api.In); low != (api.Dyad{}) || high != d(2, 0) || e != api.OK {
		t.Error(low, high, e)
	}
	if low, high, e := x.Bounds(api.Out); low != d(2, 0) || high != d(4, 0) || e != api.OK {
		t.Error(low, high, e)
	}
	if n, _ := x.Step(); n != 2 || x.Bytes() != "ppiiiiopiiiio" || counts(x) != [3]int{8, 2, 0} {
		t.Error(n, x.Bytes(), counts(x))
	}
	in, out, unknown, _ = x.Areas()
	if n, e := x.Step(); in != d(2, 0) || out != d(2, 0) || unknown != (api.Dyad{}) || n != 0 || e != api.OK {
		t.Error(in, out, unknown, n, e)
	}
	for _, c := range []struct {
		g    api.Gauss
		s    api.Square
		told api.Told
		e    api.Errno
	}{{g(0.25, 0.25), api.Square{Exp: -1}, api.In, 0}, {g(1, 1), api.Square{Left: d(1, -1), Low: d(1, -1), Exp: -1}, api.In, 0}, {g(1.5, 1), api.Square{Left: d(1, 0), Exp: 0}, api.Out, 0}, {g(3, 0), api.Square{}, 0, api.ErrEdge}, {api.Gauss{Re: api.Dyad{N: "\x02"}}, api.Square{}, 0, api.ErrArg}} {
		s, told, e := x.Find(c.g)
		parted, f := x.Part(c.g)
		if s != c.s || told != c.told || e != c.e || parted || f != c.e {
			t.Error(c, s, told, e, parted, f)
		}
	}
}

func TestP27_1_P27_2Limits(t *testing.T) {
	asked := 0
	count := by(func(api.Ball) api.Told { asked++; return api.Unknown })
	x := tree(root, count)
	if asked != 1 {
		t.Error("a leaf is told when it comes to be", asked)
	}
	for range 40 {
		if ok, e := x.Part(g(0, 0)); !ok || e != api.OK {
			t.Fatal(ok, e)
		}
	}
	if asked != 161 || x.Depth() != api.MaxDepth {
		t.Error(asked, x.Depth())
	}
	if ok, e := x.Part(g(0, 0)); ok || e != api.OK || asked != 161 {
		t.Error("MaxDepth", ok, e)
	}
	if n, e := x.Down(40); n != 0 || e != api.OK {
		t.Error(n, e)
	}
	full := tree(root, by(never))
	n, e := full.Down(8)
	if n != (65536-1)/3 || e != api.OK || counts(full) != [3]int{0, 0, 65536} {
		t.Error(n, e)
	}
	if ok, e := full.Part(g(0.5, 0.5)); ok || e != api.OK {
		t.Error("MaxLeaves", ok, e)
	}
	if n, e := full.Step(); n != 0 || e != api.OK {
		t.Error(n, e)
	}
	if n, e := full.Down(9); n != 0 || e != api.OK || full.Depth() != 8 {
		t.Error(n, e)
	}
	if back, e := Read(root, full.Bytes(), by(never)); e != api.OK || back.Bytes() != full.Bytes() {
		t.Error(e)
	}
	if _, e := Read(root, "p"+full.Bytes()+"uuu", by(never)); e != api.ErrTree {
		t.Error("too many leaves", e)
	}
	// parts whose squares, or covers, are not there
	least := tree(api.Square{Exp: -4096}, by(never))
	if ok, e := least.Part(g(0, 0)); ok || e != api.OK {
		t.Error(ok, e)
	}
	asked = 0
	edge := api.Square{Left: d(1, 1023), Exp: 970}
	far := tree(edge, count)
	if ok, _ := far.Part(api.Gauss{Re: edge.Left}); !ok || asked != 5 {
		t.Error(ok, asked)
	}
	thin := tree(api.Square{Left: d(1, -65520), Exp: -100}, count)
	asked = 0
	if ok, e := thin.Part(api.Gauss{Re: d(1, -65520)}); ok && asked != 4 || !ok && asked != 0 || e != api.OK {
		t.Error(ok, asked, e)
	}
	odd := tree(root, by(func(api.Ball) api.Told { return 9 }))
	if counts(odd) != [3]int{0, 0, 1} || odd.Bytes() != "u" {
		t.Error("what is none of In and Out")
	}
	for _, depth := range []int{-1, 41, math.MinInt, math.MaxInt} {
		if n, e := odd.Down(depth); n != 0 || e != api.ErrArg {
			t.Error(depth, n, e)
		}
	}
	for _, c := range []struct {
		s api.Square
		j api.Judge
		e api.Errno
	}{{bad, nil, api.ErrNil}, {bad, by(never), api.ErrWindow}, {api.Square{Left: d(1, 2000)}, by(never), api.ErrFloat}, {api.Square{Left: d(1, -api.MaxExp)}, by(never), api.ErrLong}} {
		x, e := New(c.s, c.j)
		y, f := Read(c.s, "", c.j)
		if x != nil || y != nil || e != c.e || f != c.e {
			t.Error(c.s.Exp, e, f)
		}
	}
	for _, x := range []*Tree{nil, {}} {
		n1, e1 := x.Step()
		n2, e2 := x.Down(-1)
		ok, e3 := x.Part(api.Gauss{Re: api.Dyad{N: "\x02"}})
		s, told, e4 := x.Find(g(0, 0))
		a, b, c, e5 := x.Areas()
		low, high, e6 := x.Bounds(9)
		if n1+n2 != 0 || ok || s != (api.Square{}) || told != 0 || a != b || b != c || low != high || a != (api.Dyad{}) || x.Square() != s || x.Depth() != 0 || counts(x) != [3]int{} || x.Bytes() != "" || x.Copy() != nil || min(e1, e2, e3, e4, e5, e6) != api.ErrNil || max(e1, e2, e3, e4, e5, e6) != api.ErrNil {
			t.Error("one that is none", e1, e2, e3, e4, e5, e6)
		}
		for range x.Leaves() {
			t.Error("tells")
		}
	}
	for _, told := range []api.Told{api.Unknown, 3, 255} {
		if low, high, e := odd.Bounds(told); low != high || low != (api.Dyad{}) || e != api.ErrArg {
			t.Error(told, e)
		}
	}
}

func area(t *testing.T, x *Tree, told api.Told) api.Dyad {
	in, out, unknown, e := x.Areas()
	if e != api.OK {
		t.Fatal(e)
	}
	return map[api.Told]api.Dyad{api.In: in, api.Out: out, api.Unknown: unknown}[told]
}

func judges() []api.Judge {
	m := api.Map{P: api.Poly{-1, 0, 1}, Q: api.Poly{1}}
	x, _ := trap.Around(m, 0, 2)
	j, _ := status.New(m, 40, x)
	return []api.Judge{by(disc), by(never), j}
}

func TestP27_3_P27_6_P27_7(t *testing.T) {
	for _, j := range judges() {
		x := tree(wide, j)
		var last [2][2]api.Dyad
		for k, told := range []api.Told{api.In, api.Out} {
			last[k][0], last[k][1], _ = x.Bounds(told)
		}
		kept := map[api.Square]api.Told{}
		for range 5 {
			x.Step()
			sum := api.Dyad{}
			parted := map[api.Square]int{}
			n := 0
			for s, told := range x.Leaves() {
				n++
				b, e := view.Cover(s)
				if e != api.OK || j.Tell(b) != told {
					t.Error("told", s, told)
				}
				if old, ok := kept[s]; ok && old != api.Unknown && old != told {
					t.Error("told otherwise", s)
				}
				kept[s] = told
				parted[s]++
				a, _ := view.Area(s)
				sum, _ = dyad.Add(sum, a)
				m, _ := view.Middle(s)
				if f, what, e := x.Find(m); f != s || what != told || e != api.OK {
					t.Error("Find", s, f)
				}
			}
			whole, _ := view.Area(wide)
			if sum != whole || n != len(parted) {
				t.Error("the areas", sum, n)
			}
			in, out, unknown, _ := x.Areas()
			all, _ := dyad.Sum(in, out, unknown)
			if all != whole {
				t.Error("together", all)
			}
			for k, told := range []api.Told{api.In, api.Out} {
				low, high, e := x.Bounds(told)
				own := area(t, x, told)
				other, _ := dyad.Sub(whole, area(t, x, api.In+api.Out-told))
				c1, _ := dyad.Cmp(low, last[k][0])
				c2, _ := dyad.Cmp(high, last[k][1])
				if low != own || high != other || e != api.OK || c1 < 0 || c2 > 0 {
					t.Error("Bounds", told, low, high)
				}
				last[k] = [2]api.Dyad{low, high}
			}
		}
	}
	x := tree(wide, by(disc))
	n := 0
	for range x.Leaves() {
		x.Down(3)
		n++
	}
	if n != 1 {
		t.Error("as they are when it begins", n)
	}
	for range x.Leaves() {
		break
	}
	y := x.Copy()
	bytes := x.Bytes()
	y.Step()
	if x.Bytes() != bytes || y.Bytes() == bytes {
		t.Error("Copy")
	}
	if n, _ := x.Copy().Down(2); n != 0 {
		t.Error("as deep already", n)
	}
	z := tree(wide, by(disc))
	n1, _ := z.Down(1)
	n2, _ := z.Down(3)
	if m, _ := tree(wide, by(disc)).Down(3); n1 != 1 || m != n1+n2 {
		t.Error("how many were parted", n1, n2, m)
	}
}

func TestP27_8(t *testing.T) {
	r := rand.New(rand.NewSource(38))
	for range 40 {
		x := tree(wide, by(disc))
		x.Down(1 + r.Intn(4))
		y := x.Copy()
		p, q := g(r.Float64()*4-2, r.Float64()*4-2), g(r.Float64()*4-2, r.Float64()*4-2)
		s, _, _ := x.Find(p)
		u, _, _ := x.Find(q)
		if s == u {
			continue
		}
		x.Part(p)
		x.Part(q)
		y.Part(q)
		y.Part(p)
		if x.Bytes() != y.Bytes() {
			t.Error(p, q)
		}
	}
	x, y := tree(wide, by(disc)), tree(wide, by(disc))
	x.Down(2)
	x.Down(5)
	y.Down(5)
	if x.Bytes() != y.Bytes() {
		t.Error("Down and Down")
	}
}

func TestP27_5_P27_9Bytes(t *testing.T) {
	for _, j := range judges() {
		x := tree(wide, j)
		for depth := range 5 {
			x.Down(depth)
			asked := 0
			back, e := Read(wide, x.Bytes(), by(func(api.Ball) api.Told { asked++; return api.In }))
			if e != api.OK || back.Bytes() != x.Bytes() || back.Depth() != x.Depth() || counts(back) != counts(x) || asked != 0 {
				t.Error(e, asked)
			}
			var l []api.Square
			for s := range x.Leaves() {
				l = append(l, s)
			}
			i := 0
			for s, told := range back.Leaves() {
				if f, what, _ := x.Find(mid(s)); s != l[i] || f != s || what != told {
					t.Error(i)
				}
				i++
			}
		}
	}
	for _, s := range []string{"", "pu", "uu", "x", "p", "puuu", "puuuuu", "puuux", "P", "ppuuuuuu", "u ", "p\x00uuu", strings.Repeat("puuu", 41) + "u"} {
		if x, e := Read(root, s, by(never)); x != nil || e != api.ErrTree {
			t.Error(s, e)
		}
	}
	for _, s := range []string{"u", "i", "o", "puiou", "ppuuuuioi", strings.Repeat("puuu", 40) + "u", strings.Repeat("p", 40) + "u" + strings.Repeat("uuu", 40)} {
		x, e := Read(root, s, by(example))
		if e != api.OK || x.Bytes() != s {
			t.Error(s, e)
		}
	}
	if x, e := Read(root, strings.Repeat("p", 41)+"u"+strings.Repeat("uuu", 41), by(never)); x != nil || e != api.ErrTree {
		t.Error("too deep", e)
	}
	if x, e := Read(api.Square{Exp: -4096}, "puuuu", by(never)); x != nil || e != api.ErrTree {
		t.Error("no parts", e)
	}
	x, _ := Read(root, "puuuu", by(example))
	if n, _ := x.Step(); n != 4 {
		t.Error("a tree that was read goes on", n)
	}
}

func mid(s api.Square) api.Gauss {
	m, _ := view.Middle(s)
	return m
}

func TestP27_10Disc(t *testing.T) {
	x := tree(wide, by(disc))
	for range 7 {
		x.Step()
		low, high, e := x.Bounds(api.In)
		f, _ := dyad.Near(low)
		h, _ := dyad.Near(high)
		if e != api.OK || f > math.Pi || h < math.Pi {
			t.Error(f, h)
		}
	}
	low, high, _ := x.Bounds(api.In)
	f, _ := dyad.Near(low)
	h, _ := dyad.Near(high)
	if h-f > 0.8 || new(big.Float).SetFloat64(f).Sign() < 0 {
		t.Error("no better", f, h)
	}
}
