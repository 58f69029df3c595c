package view

import (
	"math"
	"math/rand"
	"testing"

	"filigree/api"
	"filigree/ball"
	"filigree/bits"
	"filigree/dyad"
	"filigree/gauss"
)

func d(n int64, exp int) api.Dyad {
	x, e := dyad.Of(n, exp)
	if e != api.OK {
		panic(e)
	}
	return x
}

func g(x, y float64) api.Gauss {
	z, e := gauss.Complex(complex(x, y))
	if e != api.OK {
		panic(e)
	}
	return z
}

func win(c complex128, exp, across, down int) api.Window {
	w, e := Make(c, exp, across, down)
	if e != api.OK {
		panic(e)
	}
	return w
}

func add(a, b api.Dyad) api.Dyad {
	x, e := dyad.Add(a, b)
	if e != api.OK {
		panic(e)
	}
	return x
}

var (
	badD = api.Dyad{N: "\x02"}
	badG = api.Gauss{Re: badD}
	far  = d(1, api.MaxExp)
	thin = d(1, -api.MaxExp)
	w1   = win(0, -1, 4, 2)
)

func windows() []api.Window {
	l := []api.Window{w1, win(0.1-2i, -3, 5, 7), win(1e10+1e-10i, 0, 1, 1), win(-3, 4, 3, 2), win(0.5, -60, 2, 3)}
	l = append(l, api.Window{Centre: api.Gauss{Re: d(1, 3000), Im: d(-3, -3000)}, Exp: 2990, Across: 3, Down: 3})
	return l
}

func wrong() []api.Window {
	return []api.Window{{}, {Exp: 0, Across: 1}, {Down: 1}, {Centre: badG, Across: 1, Down: 1}, {Centre: api.Gauss{Im: badD}, Across: 1, Down: 1}, {Exp: 4097, Across: 1, Down: 1}, {Exp: -4097, Across: 1, Down: 1}, {Across: 65537, Down: 1}, {Across: 1, Down: 65537}, {Across: -1, Down: 1}, {Across: math.MaxInt, Down: math.MinInt}}
}

func wrongSquares() []api.Square {
	return []api.Square{{Left: badD}, {Low: badD}, {Exp: 4097}, {Exp: -4097}, {Exp: math.MinInt}}
}

func TestP24_1(t *testing.T) {
	for _, w := range windows() {
		if Check(w) != api.OK {
			t.Error(w)
		}
	}
	for _, w := range wrong() {
		if Check(w) != api.ErrWindow {
			t.Error(w)
		}
	}
	for _, s := range wrongSquares() {
		if Right(s) != api.ErrWindow {
			t.Error(s)
		}
	}
	if Right(api.Square{Left: far, Low: thin, Exp: 4096}) != api.OK || Right(api.Square{Exp: -4096}) != api.OK {
		t.Error("edges")
	}
	if w, e := Make(0.5-2i, -7, 65536, 1); w != (api.Window{Centre: g(0.5, -2), Exp: -7, Across: 65536, Down: 1}) || e != api.OK {
		t.Error(w, e)
	}
	for _, c := range []struct {
		z           complex128
		exp, ac, dn int
		e           api.Errno
	}{{complex(math.NaN(), 0), 5000, 0, 0, api.ErrFloat}, {complex(0, math.Inf(1)), 0, 1, 1, api.ErrFloat}, {0, 5000, 1, 1, api.ErrArg}, {0, -4097, 1, 1, api.ErrArg}, {0, 0, 0, 1, api.ErrArg}, {0, 0, 1, 0, api.ErrArg}, {0, 0, 65537, 1, api.ErrArg}, {0, 0, 1, math.MaxInt, api.ErrArg}} {
		if w, e := Make(c.z, c.exp, c.ac, c.dn); w != (api.Window{}) || e != c.e {
			t.Error(c, w, e)
		}
	}
}

func TestP24_2_P24_7(t *testing.T) {
	for _, w := range windows() {
		side := d(1, w.Exp)
		n := 0
		for at, s := range Cells(w) {
			i, k := at[0], at[1]
			if i != n%w.Across || k != n/w.Across {
				t.Error("order", w, at, n)
			}
			n++
			cell, e := Cell(w, i, k)
			if cell != s || e != api.OK || s.Exp != w.Exp {
				t.Error(w, at, s, e)
			}
			if s.Left != add(w.Centre.Re, d(int64(2*i-w.Across), w.Exp-1)) || s.Low != add(w.Centre.Im, d(int64(w.Down-2*k-2), w.Exp-1)) {
				t.Error(w, at, s)
			}
			if next, e := Cell(w, i+1, k); e == api.OK && next.Left != add(s.Left, side) {
				t.Error("edge", w, at)
			}
			if below, e := Cell(w, i, k+1); e == api.OK && s.Low != add(below.Low, side) {
				t.Error("edge", w, at)
			}
			m, e := Middle(s)
			if x, y, f := Find(w, m); x != i || y != k || e != api.OK || f != api.OK {
				t.Error("Find", w, at, x, y)
			}
		}
		if n != w.Across*w.Down {
			t.Error(w, n)
		}
		for _, at := range [][2]int{{-1, 0}, {0, -1}, {w.Across, 0}, {0, w.Down}, {math.MaxInt, 0}, {0, math.MinInt}} {
			if s, e := Cell(w, at[0], at[1]); s != (api.Square{}) || e != api.ErrCell {
				t.Error(w, at, s, e)
			}
		}
	}
	if s, e := Cell(w1, 0, 0); s != (api.Square{Left: d(-1, 0), Exp: -1}) || e != api.OK {
		t.Error(s, e)
	}
	if s, e := Cell(w1, 3, 1); s != (api.Square{Left: d(1, -1), Low: d(-1, -1), Exp: -1}) || e != api.OK {
		t.Error(s, e)
	}
	for _, w := range wrong() {
		if s, e := Cell(w, 0, 0); s != (api.Square{}) || e != api.ErrWindow {
			t.Error(w, e)
		}
		for range Cells(w) {
			t.Error("cells of", w)
		}
	}
	thinWindow := api.Window{Centre: api.Gauss{Re: add(thin, d(1, -api.MaxExp+131000)), Im: thin}, Exp: -900, Across: 2, Down: 2}
	if s, e := Cell(thinWindow, 0, 0); s != (api.Square{}) || e != api.ErrLong {
		t.Error(e)
	}
	for at := range Cells(thinWindow) {
		if at != [2]int{1, 0} {
			t.Error(at)
		}
	}
	half := api.Window{Centre: api.Gauss{Re: thin}, Exp: 1, Across: 3, Down: 1}
	if _, e := Cell(half, 0, 0); e != api.ErrLong {
		t.Error(e)
	}
	one := api.Window{Centre: api.Gauss{Re: thin, Im: d(1, -1)}, Exp: 1, Across: 2, Down: 1}
	n := 0
	for at, s := range Cells(one) {
		if n++; at != [2]int{1, 0} || s.Left != thin {
			t.Error(at, s)
		}
	}
	if n != 1 {
		t.Error("the column that fits", n)
	}
	n = 0
	for range Cells(win(0, 0, 65536, 65536)) {
		if n++; n == 10 {
			break
		}
	}
}

func TestP24_3Find(t *testing.T) {
	r := rand.New(rand.NewSource(33))
	for _, w := range windows()[:5] {
		c, _ := gauss.Near(w.Centre)
		side := math.Ldexp(1, w.Exp)
		for range 100 {
			p := g(real(c)+side/2*float64(r.Intn(2*w.Across+4)-w.Across-2), imag(c)+side/4*float64(r.Intn(4*w.Down+8)-2*w.Down-4))
			want, found := [2]int{}, false
			for at, s := range Cells(w) {
				in, e := Holds(s, p)
				if e != api.OK {
					t.Fatal(e)
				}
				if in && (!found || at[0] < want[0] || at[0] == want[0] && at[1] < want[1]) {
					want, found = at, true
				}
			}
			x, y, e := Find(w, p)
			if found && ([2]int{x, y} != want || e != api.OK) || !found && (x != 0 || y != 0 || e != api.ErrCell) {
				t.Error(w, p, x, y, e, want, found)
			}
		}
	}
	for _, c := range []struct {
		w    api.Window
		g    api.Gauss
		x, y int
		e    api.Errno
	}{{w1, g(-1, 0.5), 0, 0, 0}, {w1, g(0, 0), 1, 0, 0}, {w1, g(1, -0.5), 3, 1, 0}, {w1, g(0.25, 0.125), 2, 0, 0}, {w1, g(2, 0), 0, 0, api.ErrCell}, {w1, g(0, 0.51), 0, 0, api.ErrCell}, {w1, badG, 0, 0, api.ErrArg}, {api.Window{}, badG, 0, 0, api.ErrWindow}, {win(1, 0, 1, 1), api.Gauss{Re: thin}, 0, 0, api.ErrLong}, {w1, api.Gauss{Re: thin, Im: thin}, 2, 0, 0}, {w1, api.Gauss{Re: far}, 0, 0, api.ErrCell}, {api.Window{Centre: api.Gauss{Re: thin}, Exp: 0, Across: 1, Down: 1}, api.Gauss{Re: thin}, 0, 0, 0}} {
		if x, y, e := Find(c.w, c.g); x != c.x || y != c.y || e != c.e {
			t.Error(c.w, x, y, e)
		}
	}
}

func TestP24_4(t *testing.T) {
	for _, w := range windows() {
		z, e := Zoom(w, 1)
		if e != api.OK || z.Centre != w.Centre || z.Exp != w.Exp-1 || z.Across != 2*w.Across || z.Down != 2*w.Down {
			t.Error(w, z, e)
		}
		for at, s := range Cells(w) {
			parts, e := Parts(s)
			if e != api.OK {
				t.Fatal(e)
			}
			i, k := 2*at[0], 2*at[1]
			for n, c := range [4][2]int{{i, k + 1}, {i + 1, k + 1}, {i, k}, {i + 1, k}} {
				if q, _ := Cell(z, c[0], c[1]); q != parts[n] {
					t.Error("parts", w, at, n)
				}
			}
			for across := 1; across <= w.Across-at[0]; across++ {
				for down := 1; down <= w.Down-at[1]; down++ {
					c, e := Crop(w, at[0], at[1], across, down)
					if e != api.OK || c.Across != across || c.Down != down || c.Exp != w.Exp {
						t.Fatal(w, at, c, e)
					}
					for in, s := range Cells(c) {
						if q, _ := Cell(w, at[0]+in[0], at[1]+in[1]); q != s {
							t.Error("Crop", w, at, in)
						}
					}
				}
			}
		}
		for _, c := range [][4]int{{-1, 0, 1, 1}, {0, -1, 1, 1}, {0, 0, 0, 1}, {0, 0, 1, 0}, {0, 0, w.Across + 1, 1}, {0, 0, 1, w.Down + 1}, {w.Across, 0, 1, 1}, {1, 0, w.Across, 1}, {0, 0, math.MaxInt, 1}, {math.MaxInt, 0, 1, 1}, {0, math.MinInt, 1, math.MinInt}} {
			if x, e := Crop(w, c[0], c[1], c[2], c[3]); x != (api.Window{}) || e != api.ErrCell {
				t.Error(w, c, x, e)
			}
		}
	}
	for _, c := range []struct {
		w  api.Window
		by int
		e  api.Errno
	}{{w1, 65, api.ErrWindow}, {w1, -1, api.ErrArg}, {w1, math.MinInt, api.ErrArg}, {w1, math.MaxInt, api.ErrWindow}, {w1, 14, api.OK}, {w1, 15, api.ErrWindow}, {win(0, -4095, 1, 1), 1, api.OK}, {win(0, -4095, 1, 1), 2, api.ErrWindow}, {win(0, 0, 1, 1), 16, api.OK}, {win(0, 0, 1, 1), 17, api.ErrWindow}, {w1, 0, api.OK}, {api.Window{}, -1, api.ErrWindow}} {
		z, e := Zoom(c.w, c.by)
		if e != c.e || e == api.OK && (z.Across != c.w.Across<<c.by || z.Down != c.w.Down<<c.by || z.Exp != c.w.Exp-c.by) || e != api.OK && z != (api.Window{}) {
			t.Error(c, z, e)
		}
	}
	if c, e := Crop(w1, 1, 0, 2, 2); c.Centre != g(0, 0) || e != api.OK {
		t.Error(c, e)
	}
	if c, e := Crop(w1, 0, 0, 1, 1); c.Centre != g(-0.75, 0.25) || e != api.OK {
		t.Error(c, e)
	}
	if c, e := Crop(api.Window{Centre: api.Gauss{Im: thin}, Exp: 1, Across: 1, Down: 3}, 0, 0, 1, 1); c != (api.Window{}) || e != api.ErrLong {
		t.Error(c, e)
	}
	if c, e := Crop(api.Window{}, 0, 0, 1, 1); c != (api.Window{}) || e != api.ErrWindow {
		t.Error(c, e)
	}
}

func squares() []api.Square {
	l := []api.Square{{Exp: 1}, {Left: d(-1, 0), Exp: -1}, {Left: d(3, -5), Low: d(-7, 2), Exp: 0}, {Left: d(1, 53), Low: d(1, 60), Exp: -1}, {Left: d(1, 0), Exp: -1074}, {Exp: -1074}, {Exp: -1080}, {Exp: 1000}, {Exp: 1022}, {Left: d(1<<53+1, -60), Low: d(1, -100), Exp: -30}, {Exp: -3000}, {Left: d(-1, -2000), Exp: -1999}}
	r := rand.New(rand.NewSource(34))
	for range 60 {
		l = append(l, api.Square{Left: d(r.Int63()-r.Int63(), -60), Low: d(r.Int63()-r.Int63(), -61), Exp: r.Intn(70) - 65})
	}
	return l
}

func TestP24_5_P24_8(t *testing.T) {
	for _, s := range squares() {
		side, half := d(1, s.Exp), d(1, s.Exp-1)
		c, e := Corners(s)
		m, f := Middle(s)
		right, top := add(s.Left, side), add(s.Low, side)
		if c != [4]api.Gauss{{Re: s.Left, Im: s.Low}, {Re: right, Im: s.Low}, {Re: s.Left, Im: top}, {Re: right, Im: top}} || m != (api.Gauss{Re: add(s.Left, half), Im: add(s.Low, half)}) || e != api.OK || f != api.OK {
			t.Error(s, c, m)
		}
		p, e := Parts(s)
		if e != api.OK || p[0] != (api.Square{Left: s.Left, Low: s.Low, Exp: s.Exp - 1}) || p[1] != (api.Square{Left: m.Re, Low: s.Low, Exp: s.Exp - 1}) || p[2] != (api.Square{Left: s.Left, Low: m.Im, Exp: s.Exp - 1}) || p[3] != (api.Square{Left: m.Re, Low: m.Im, Exp: s.Exp - 1}) {
			t.Error(s, p, e)
		}
		area, _ := Area(s)
		sum := api.Dyad{}
		for i, q := range p {
			a, _ := Area(q)
			sum = add(sum, a)
			corners, _ := Corners(q)
			if corners[i] != c[i] || corners[3-i] != m {
				t.Error("corners", s, i)
			}
		}
		if sum != area || area != d(1, 2*s.Exp) {
			t.Error("area", s)
		}
		for _, x := range append(c[:], m) {
			if in, e := Holds(s, x); !in || e != api.OK {
				t.Error(s, x)
			}
			tiny := d(1, -6000)
			for i, y := range []api.Gauss{{Re: add(x.Re, tiny), Im: x.Im}, {Re: add(x.Re, dyad.Neg(tiny)), Im: x.Im}, {Re: x.Re, Im: add(x.Im, tiny)}, {Re: x.Re, Im: add(x.Im, dyad.Neg(tiny))}} {
				outside := i == 0 && x.Re == right || i == 1 && x.Re == s.Left || i == 2 && x.Im == top || i == 3 && x.Im == s.Low
				if in, e := Holds(s, y); in == outside || e != api.OK {
					t.Error(s, x, i, in)
				}
			}
		}
	}
	long := api.Square{Left: thin, Exp: 1}
	if c, e := Corners(long); c != [4]api.Gauss{} || e != api.ErrLong {
		t.Error(e)
	}
	if m, e := Middle(api.Square{Low: thin, Exp: 1}); m != (api.Gauss{}) || e != api.ErrLong {
		t.Error(m, e)
	}
	if p, e := Parts(long); p != [4]api.Square{} || e != api.ErrLong {
		t.Error(e)
	}
	if in, e := Holds(long, badG); in || e != api.ErrArg {
		t.Error(in, e)
	}
	if in, e := Holds(long, g(0, 0)); in || e != api.ErrLong {
		t.Error(in, e)
	}
	if in, e := Holds(api.Square{Exp: 1}, api.Gauss{Re: thin, Im: thin}); !in || e != api.OK {
		t.Error("nothing of g need fit", in, e)
	}
	if p, e := Parts(api.Square{Exp: -4096}); p != [4]api.Square{} || e != api.ErrWindow {
		t.Error(e)
	}
	for _, s := range wrongSquares() {
		c, e1 := Corners(s)
		m, e2 := Middle(s)
		in, e3 := Holds(s, badG)
		p, e4 := Parts(s)
		a, e5 := Area(s)
		b, e6 := Cover(s)
		if c != [4]api.Gauss{} || m != (api.Gauss{}) || in || p != [4]api.Square{} || a != (api.Dyad{}) || b != (api.Ball{}) || min(e1, e2, e3, e4, e5, e6) != api.ErrWindow || max(e1, e2, e3, e4, e5, e6) != api.ErrWindow {
			t.Error(s, e1, e2, e3, e4, e5, e6)
		}
	}
}

func TestP24_6_P24_9Cover(t *testing.T) {
	for _, s := range squares() {
		b, e := Cover(s)
		c, _ := Corners(s)
		m, _ := Middle(s)
		if e != api.OK {
			t.Error(s, e)
			continue
		}
		if near, _ := gauss.Near(m); b.C != near || !ball.May(b) || b.R <= 0 {
			t.Error(s, b)
		}
		less, all := b, true
		less.R = bits.Down(b.R)
		for _, x := range c {
			if !ball.Holds(b, x) {
				t.Error(s, b, x)
			}
			all = all && ball.Holds(less, x)
		}
		if all {
			t.Error("not the least", s, b)
		}
	}
	first, _ := Cell(w1, 0, 0)
	if b, e := Cover(first); b != (api.Ball{C: -0.75 + 0.25i, R: 0.3535533905932738}) || e != api.OK {
		t.Error(b, e)
	}
	if b, e := Cover(api.Square{Exp: 1}); b != (api.Ball{C: 1 + 1i, R: 1.4142135623730951}) || e != api.OK {
		t.Error(b, e)
	}
	for _, c := range []struct {
		s api.Square
		e api.Errno
	}{{api.Square{Left: thin, Exp: 1}, api.ErrLong}, {api.Square{Left: d(1, 1024)}, api.ErrFloat}, {api.Square{Low: d(-1, 1100)}, api.ErrFloat}, {api.Square{Exp: 2000}, api.ErrFloat}, {api.Square{Left: d(-1, 1024), Low: d(-1, 1024), Exp: 1025}, api.ErrFloat}, {api.Square{Left: thin, Low: d(1, 1), Exp: -4096}, api.ErrLong}, {api.Square{Left: d(1, -100000), Exp: 0}, api.ErrLong}} {
		if b, e := Cover(c.s); b != (api.Ball{}) || e != c.e {
			t.Error(c.s.Exp, b, e)
		}
	}
}
