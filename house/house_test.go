package house

import (
	"math"
	"slices"
	"strconv"
	"strings"
	"testing"

	"filigree/api"
	"filigree/ball"
	"filigree/bits"
	"filigree/cert"
	"filigree/dyad"
	"filigree/gauss"
	"filigree/picture"
	"filigree/scene"
	"filigree/status"
	"filigree/tile"
	"filigree/trap"
	"filigree/view"
)

// run is the answer of orders that stand with "; " between two.
func run(t *testing.T, orders string) []string {
	t.Helper()
	s, f := Run(strings.ReplaceAll(orders, "; ", "\n"))
	if f != nil {
		t.Fatal(orders, f)
	}
	return strings.Split(strings.TrimSuffix(s, "\n"), "\n")
}

func same(t *testing.T, orders string, want ...string) {
	t.Helper()
	if l := run(t, orders); !slices.Equal(l, want) {
		t.Errorf("%s: %q", orders, l)
	}
}

// house is one behind those orders, none of which is refused.
func house(t *testing.T, orders string) *House {
	t.Helper()
	h := New()
	l, f := scene.Parse(strings.ReplaceAll(orders, "; ", "\n"))
	if f != nil {
		t.Fatal(orders, f)
	}
	for _, o := range l {
		if _, e := h.Do(o); e != api.OK {
			t.Fatal(o, e)
		}
	}
	return h
}

func TestTenExamples(t *testing.T) {
	same(t, "map z^2 - 1; ask 4 0; ask 0 0", "map 2 exact", "ask out 0", "ask unknown")
	l := run(t, "map z^2 - 1; ask 4 0; ask 0 0; cycles 2; ask 0 0; ask 1.618033988749895 0; ask 1.618 0")
	if len(l) != 8 || l[3] != "cycles 1" || !strings.HasPrefix(l[4], "trap 2 ") || l[5] != "ask in 0 0" || l[6] != "ask unknown" || !strings.HasPrefix(l[7], "ask in ") {
		t.Errorf("%q", l)
	}
	same(t, "map 0.1*z^2", "map 2 rounded")
	same(t, "ask 0 0; map z^2; draw; areas; certify", "error 3", "map 2 exact", "error 3", "error 3", "error 3")
	base := "map z^2; window 0 0 -1 8 8; "
	plain := run(t, base+"draw")
	if len(plain) != 12 || plain[0] != "map 2 exact" || plain[1] != "window 8 8" || plain[2] != "draw 8 8" {
		t.Errorf("%q", plain)
	}
	sum := 0
	for _, w := range strings.Fields(plain[3])[1:] {
		n, err := strconv.Atoi(w)
		if err != nil {
			t.Error(plain[3])
		}
		sum += n
	}
	if sum != 64 || !strings.HasPrefix(plain[3], "told ") {
		t.Error(plain[3])
	}
	parted := run(t, base+"tiles 3 3; workers 4; stop 2; draw")
	if !slices.Equal(parted[5:], plain[2:]) || !slices.Equal(parted[2:5], []string{"tiles 3 3", "workers 4", "stop 2"}) {
		t.Errorf("%q", parted)
	}
	h := house(t, base+"cycles 1; depth 2")
	in2, out2, u2, e := h.Areas()
	if e != api.OK {
		t.Error(e)
	}
	h.Do(api.Order{Kind: api.OrderDepth, N: 4})
	in4, out4, u4, _ := h.Areas()
	for _, l := range [][]api.Dyad{{in2, out2, u2}, {in4, out4, u4}} {
		if all, _ := dyad.Sum(l...); all != (api.Dyad{N: "\x01", Exp: 4}) {
			t.Error(all)
		}
	}
	c, _ := dyad.Cmp(in2, in4)
	d, _ := dyad.Cmp(out2, out4)
	if c > 0 || d > 0 || in4 == in2 {
		t.Error("areas", in2, in4, out2, out4)
	}
	l = run(t, base+"certify; cycles 1; certify")
	if !strings.HasPrefix(l[2], "certificate ") || !strings.HasPrefix(l[5], "certificate ") || l[2] == l[5] {
		t.Errorf("%q", l)
	}
	same(t, "angle 1/7 2; leaf 1/3 2/3; leaf 1/7 1/2", "angle 0 3 (1 1 *)", "leaves 1", "error 231")
	same(t, "map z^2; wind 0 0 1 16; wind 5 0 1 16", "map 2 exact", "wind 2", "wind 0")
}

func TestMoreExamples(t *testing.T) {
	same(t, "ask 0 0", "error 3")
	same(t, "map z; draw", "map 1 exact", "error 3")
	same(t, "map z/(z - z); ask 0 0", "error 120", "error 3")
	same(t, "map z^2; window 0 0 0 200 200; draw; certify; depth 0; areas; depth 1; areas", "map 2 exact", "window 200 200", "error 4", "error 4", "depth 0", "areas 0 0 0"[:5]+run(t, "map z^2; window 0 0 0 200 200; depth 0; areas")[3][5:], "depth 1", "error 4")
	l := run(t, "map z^2 - 1; roots; map z^2; roots; map 5; roots; map (z - 1)/z; roots")
	if l[1] != "roots 2 2" || !strings.HasPrefix(l[2], "root 1p0 ") && !strings.HasPrefix(l[2], "root -1p0 ") || l[5] != "roots 0 2" || !strings.HasPrefix(l[6], "guess ") || !strings.HasPrefix(l[7], "guess ") || l[9] != "roots 0 0" || l[11] != "roots 1 1" {
		t.Errorf("%q", l)
	}
	if f := strings.Fields(l[2]); len(f) != 4 {
		t.Error(l[2])
	}
	same(t, "class 0 2; class 0 12; class 1/7 1; class 1/6 13", run(t, "class 0 2; class 0 12; class 1/7 1; class 1/6 13")...)
	if l := run(t, "class 0 13; class 1/7 3"); l[0] != "error 211" || !strings.HasPrefix(l[1], "class ") {
		t.Errorf("%q", l)
	}
	// the angles 1/7, 2/7 and 4/7 have one itinerary by 9/56
	if l := run(t, "class 9/56 3"); !slices.Contains(l, "group 1/7 2/7 4/7") {
		t.Errorf("%q", l)
	}
	same(t, "steps 0; steps 64; workers 2; stop 7; depth 1; tiles 5 6; window 1 -1 -2 3 4", "steps 0", "steps 64", "workers 2", "stop 7", "depth 1", "tiles 5 6", "window 3 4")
	same(t, "leaf 1/3 1/3; leaf 2/3 1/3; leaf 1/3 2/3; leaf 0 1/2; leaf 1/3 1/2", "error 230", "leaves 1", "leaves 1", "error 231", "leaves 2")
	same(t, "angle 1/2147483647 3; angle 1/5 2", "error 211", "angle 0 4 (1 1 0 *)")
	same(t, "seed 1 2; map z^2; seed 1 2; seed 0 -0; map z; seed 5 5", "error 3", "map 2 exact", "seeds 1", "seeds 2", "map 1 exact", "seeds 1")
	same(t, "map z^2; trap 0 0 0.25 1; trap 0 0 0.25 1; trap 0 0 0.5 1; ask 0.1 0; ask 0.5 0; map z^2; ask 0 0", "map 2 exact", "trap 1 0 0 1p-2 "+slope(t), "trap 1 0 0 1p-2 "+slope(t), "error 180", "ask in 0 0", "ask in 2 0", "map 2 exact", "ask unknown")
	same(t, "map z^2; wind 0 0 1 2000; wind 1 0 1 8; wind 0 0 1 3", "map 2 exact", "error 2", "error 80", run(t, "map z^2; wind 0 0 1 3")[1])
	same(t, "map z^16*z; map z^16", "error 4", "map 16 exact")
	same(t, "map 1e400*z; roots; seed 0 0; cycles 1; trap 0 0 1 1; wind 0 0 1 3", "error 5", "error 3", "error 3", "error 3", "error 3", "error 3")
	same(t, "map z^2; window 0 0 -1 4 4; tiles 300 300; draw", "map 2 exact", "window 4 4", "tiles 300 300", "error 2")
}

func slope(t *testing.T) string {
	x, e := trap.Around(api.Map{P: api.Poly{0, 0, 1}, Q: api.Poly{1}}, 0, 1)
	if e != api.OK {
		t.Fatal(e)
	}
	return bits.Text(x.Slope)
}

func TestP31_1_P31_2(t *testing.T) {
	h := New()
	m, ok := h.Map()
	w, ok2 := h.Window()
	if m.P != nil || ok || w != (api.Window{}) || ok2 || len(h.Seeds())+len(h.Traps())+len(h.Leaves()) != 0 || h.steps != 64 || h.wide != 16 || h.high != 16 || h.workers != 1 || h.stop != 0 || h.depth != 3 {
		t.Error("as it is at first")
	}
	for _, o := range []api.Order{{}, {Kind: api.OrderSteps, N: -1}, {Kind: api.OrderDraw, N: 1}, {Kind: api.OrderMap, Text: "z^"}, {Kind: 99}} {
		if l, e := h.Do(o); l != nil || e != api.ErrArg {
			t.Error(o, l, e)
		}
	}
	for _, h := range []*House{nil, {}} {
		l, e1 := h.Do(api.Order{})
		_, ok := h.Map()
		_, ok2 := h.Window()
		j, e2 := h.Judge()
		d, e3 := h.Draw()
		p, e4 := h.Picture()
		_, _, _, e5 := h.Areas()
		c, s, e6 := h.Certificate()
		if l != nil || ok || ok2 || j != nil || d.Cells != nil || p.Greys != nil || c.Claims != nil || s != "" || h.Seeds() != nil || h.Traps() != nil || h.Leaves() != nil || h.Copy() != nil || min(e1, e2, e3, e4, e5, e6) != api.ErrNil || max(e1, e2, e3, e4, e5, e6) != api.ErrNil {
			t.Error("one that is none", e1, e2, e3, e4, e5, e6)
		}
	}
	h = house(t, "map z^2 - 1; cycles 2; seed 1 2; leaf 1/3 2/3; leaf 0 1/3; window 0 0 -1 4 4; steps 9; tiles 2 3; depth 1")
	m, _ = h.Map()
	m.P[0] = 9
	h.Seeds()[0] = 9
	h.Traps()[0] = api.Trap{}
	h.Leaves()[0] = api.Leaf{}
	m, ok = h.Map()
	if m.P[0] != -1 || !ok || !slices.Equal(h.Seeds(), []complex128{1 + 2i}) || h.Traps()[0].N != 2 || len(h.Leaves()) != 2 || h.Leaves()[0].A.Num != "" {
		t.Error("its own memory is handed out")
	}
	w, ok = h.Window()
	if want, _ := view.Make(0, -1, 4, 4); w != want || !ok {
		t.Error(w)
	}
	c := h.Copy()
	for _, o := range []api.Order{{Kind: api.OrderMap, Text: "z^3"}, {Kind: api.OrderLeaf, A: h.Leaves()[1].A, B: h.Leaves()[0].A}, {Kind: api.OrderSteps, N: 1}, {Kind: api.OrderSeed, Z: 5}} {
		c.Do(o)
	}
	m, _ = h.Map()
	if len(m.P) != 3 || len(h.Traps()) != 1 || len(h.Seeds()) != 1 || h.steps != 9 || len(h.Leaves()) != 2 || len(c.Seeds()) != 1 || len(c.Traps()) != 0 {
		t.Error("Copy")
	}
	d := h.Copy()
	h.Do(api.Order{Kind: api.OrderSeed, Z: 7})
	d.Do(api.Order{Kind: api.OrderSeed, Z: 8})
	if !slices.Equal(h.Seeds(), []complex128{1 + 2i, 7}) || !slices.Equal(d.Seeds(), []complex128{1 + 2i, 8}) {
		t.Error("two houses share a list")
	}
}

func TestP31_3_P31_6(t *testing.T) {
	h := house(t, "map z^2 - 1; cycles 2; window 0.1 0.05 -2 13 9; tiles 4 5; workers 3; steps 40")
	j, e := h.Judge()
	if e != api.OK || j.Steps() != 40 || !slices.Equal(j.Traps(), h.Traps()) {
		t.Error(e)
	}
	w, _ := h.Window()
	want, _ := tile.Draw(j, w, api.Rect{Across: 13, Down: 9})
	if d, e := h.Draw(); !tile.Same(d, want) || e != api.OK {
		t.Error(e)
	}
	shades, _ := picture.Of(want)
	p, e := h.Picture()
	if !picture.Same(p, shades) || e != api.OK {
		t.Error(e)
	}
	lines, _ := h.Do(api.Order{Kind: api.OrderDraw})
	for k := range 9 {
		var greys []uint8
		for _, r := range strings.Fields(lines[k+2])[1:] {
			many, grey, _ := strings.Cut(r, "*")
			n, _ := strconv.Atoi(many)
			g, _ := strconv.Atoi(grey)
			greys = append(greys, slices.Repeat([]uint8{uint8(g)}, n)...)
		}
		if !slices.Equal(greys, p.Greys[13*k:13*k+13]) {
			t.Error(lines[k+2])
		}
	}
	c, s, e := h.Certificate()
	if at, f := cert.Check(c); at != 0 || f != api.OK || e != api.OK {
		t.Error(at, f, e)
	}
	in, out, _, _ := tile.Counts(want)
	if written, _ := cert.Write(c); written != s || len(c.Claims) != in+out {
		t.Error(len(c.Claims), in, out)
	}
	if l, _ := h.Do(api.Order{Kind: api.OrderCertify}); l[0] != "certificate "+strconv.Itoa(in+out)+" "+strconv.Itoa(len(s)) {
		t.Error(l)
	}
	bare := New()
	_, e1 := bare.Judge()
	_, e2 := bare.Draw()
	_, e3 := bare.Picture()
	_, _, _, e4 := bare.Areas()
	_, _, e5 := bare.Certificate()
	if min(e1, e2, e3, e4, e5) != api.ErrState || max(e1, e2, e3, e4, e5) != api.ErrState {
		t.Error(e1, e2, e3, e4, e5)
	}
	large := house(t, "map z^2; window 0 0 0 129 128; depth 2")
	_, e2 = large.Draw()
	_, e3 = large.Picture()
	_, _, _, e4 = large.Areas()
	_, _, e5 = large.Certificate()
	if e2 != api.ErrLong || e3 != api.ErrLong || e4 != api.ErrLong || e5 != api.ErrLong {
		t.Error(e2, e3, e4, e5)
	}
	deep := house(t, "map z^2; window 0 0 0 1 1; depth 9")
	if _, _, _, e := deep.Areas(); e != api.ErrLong {
		t.Error(e)
	}
	deep.Do(api.Order{Kind: api.OrderDepth, N: 40})
	if _, _, _, e := deep.Areas(); e != api.ErrLong {
		t.Error(e)
	}
	deep.Do(api.Order{Kind: api.OrderDepth, N: 8})
	if _, _, _, e := deep.Areas(); e != api.OK {
		t.Error(e)
	}
	far := house(t, "map z^2; window 1e308 1e308 1023 3 3; depth 0")
	if _, _, _, e := far.Areas(); e != api.ErrFloat {
		t.Error("a cell without a cover", e)
	}
	if c, _, e := far.Certificate(); e != api.OK || len(c.Claims) > 9 {
		t.Error(e)
	}
	if _, e := far.Draw(); e != api.OK {
		t.Error(e)
	}
}

func TestP31_4_P31_9(t *testing.T) {
	if s, f := Run("draw\nfly\n"); s != "" || f == nil || *f != (api.SceneFault{Line: 2, Code: api.ErrWord}) {
		t.Error(s, f)
	}
	if s, f := Run(""); s != "" || f != nil {
		t.Error(s, f)
	}
	first := "map z^2 - 1\n# note\ncycles 2\nleaf 1/7 2/7\nask 0.3 0.1\n"
	second := "leaf 1/4 1/2\nask 0 0\nwindow 0 0 -1 3 3\ndraw\n"
	a, _ := Run(first)
	both, f := Run(first + second)
	if f != nil || !strings.HasPrefix(both, a) || !strings.HasSuffix(a, "\n") {
		t.Error(both)
	}
	// an order that is refused changes no later answer
	refused := "map z - z\nmap 1/0\ntrap 0 0 0.9 1\nleaf 1/7 1/7\nleaf 1/6 1/2\nwind 0 0 1 2000\nclass 0 99\n"
	c, _ := Run(first + refused + second)
	lines := strings.Split(strings.TrimPrefix(c, a), "\n")
	if strings.Join(lines[7:], "\n") != strings.TrimPrefix(both, a) {
		t.Errorf("%q %q", lines, both)
	}
	for i, l := range lines[:7] {
		if !strings.HasPrefix(l, "error ") {
			t.Error(i, l)
		}
	}
}

func TestLimits(t *testing.T) {
	h := house(t, "map z^2")
	for i := range api.MaxSeeds {
		if l, e := h.Do(api.Order{Kind: api.OrderSeed, Z: complex(float64(i), 0)}); e != api.OK || l[0] != "seeds "+strconv.Itoa(i+1) {
			t.Fatal(l, e)
		}
	}
	if l, e := h.Do(api.Order{Kind: api.OrderSeed}); l != nil || e != api.ErrLong || len(h.Seeds()) != api.MaxSeeds {
		t.Error(l, e)
	}
	h = house(t, "map z^2")
	for i := range api.MaxTraps {
		if _, e := h.Do(api.Order{Kind: api.OrderTrap, R: 0.25 / float64(i+1), N: 1}); e != api.OK {
			t.Fatal(e)
		}
	}
	if l, e := h.Do(api.Order{Kind: api.OrderTrap, R: 0.001, N: 1}); l != nil || e != api.ErrLong {
		t.Error(l, e)
	}
	if l, e := h.Do(api.Order{Kind: api.OrderTrap, R: 0.25, N: 1}); len(l) != 1 || e != api.OK || len(h.Traps()) != api.MaxTraps {
		t.Error("one that it has", l, e)
	}
	if l, e := h.Do(api.Order{Kind: api.OrderTrap, R: 1, N: 1}); l != nil || e != api.ErrTrap {
		t.Error("Make's error is ahead", l, e)
	}
	if l, e := h.Do(api.Order{Kind: api.OrderCycles, N: 1}); e != api.OK || len(h.Traps()) != api.MaxTraps || !slices.Equal(l, []string{"cycles 0"}) {
		t.Error(l, e)
	}
	same(t, "map z^2; trap 0 0 0.25 1; cycles 3", "map 2 exact", "trap 1 0 0 1p-2 "+slope(t), "cycles "+strconv.Itoa(len(run(t, "map z^2; trap 0 0 0.25 1; cycles 3"))-3))
}

func TestP31_5(t *testing.T) {
	base := "map z^2 - 1; cycles 2; window 0 0 -2 16 12; "
	want := run(t, base+"draw; areas; certify")
	for _, how := range []string{"tiles 1 1; workers 8; stop 50; ", "tiles 16 12; workers 3; ", "tiles 5 4; stop 1; ", "tiles 100 1; workers 64; stop 3; "} {
		l := run(t, base+how+"draw; areas; certify")
		if n := strings.Count(how, ";"); !slices.Equal(l[4+n:], want[4:]) {
			t.Error(how)
		}
	}
}

func TestP31_7_P31_8(t *testing.T) {
	h := house(t, "map z^2 - 1; cycles 2; window 0 0 -2 14 10")
	d, _ := h.Draw()
	w, _ := h.Window()
	other := house(t, "map z^2 - 1; trap -1 0 0.0625 2; steps 200")
	j, e := other.Judge()
	if e != api.OK {
		t.Fatal(e)
	}
	for i, c := range d.Cells {
		s, _ := view.Cell(w, i%14, i/14)
		corners, _ := view.Corners(s)
		m, _ := view.Middle(s)
		for _, g := range append(corners[:], m) {
			z, _ := gauss.Near(g)
			l, e := other.Do(api.Order{Kind: api.OrderAsk, Z: z})
			told := j.Tell(ball.Point(z))
			if e != api.OK || !status.Agree(told, c.Told) || (told == api.Out) != strings.HasPrefix(l[0], "ask out") || (told == api.In) != strings.HasPrefix(l[0], "ask in") {
				t.Error(z, c, l)
			}
		}
	}
	for _, x := range append(h.Traps(), other.Traps()...) {
		if m, _ := h.Map(); trap.Check(m, x) != api.OK {
			t.Error(x)
		}
	}
	var last [2]float64
	for depth := range 5 {
		h.Do(api.Order{Kind: api.OrderDepth, N: depth})
		in, out, unknown, e := h.Areas()
		if sum, _ := dyad.Sum(in, out, unknown); e != api.OK || sum != (api.Dyad{N: "\x23", Exp: -2}) { // 140 sixteenths
			t.Error(depth, sum, e)
		}
		x, _ := dyad.Near(in)
		y, _ := dyad.Near(out)
		if x < last[0] || y < last[1] || math.IsInf(x, 0) {
			t.Error(depth, x, y, last)
		}
		last = [2]float64{x, y}
	}
}
