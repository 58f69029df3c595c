package store

import (
	"math"
	"math/rand"
	"slices"
	"strings"
	"testing"

	"filigree/api"
	"filigree/mosaic"
	"filigree/status"
	"filigree/tile"
	"filigree/trap"
	"filigree/view"
)

var (
	one  = api.Poly{1}
	sq   = api.Map{P: api.Poly{0, 0, 1}, Q: one}
	m    = api.Map{P: api.Poly{-1, 0, 1}, Q: one}
	none = api.Draw{}
)

func judge(m api.Map, steps int, traps ...api.Trap) *status.Judge {
	j, e := status.New(m, steps, traps...)
	if e != api.OK {
		panic(e)
	}
	return j
}

func grid(c complex128, exp, across, down, wide, high int) api.Grid {
	w, e := view.Make(c, exp, across, down)
	if e != api.OK {
		panic(e)
	}
	return api.Grid{Window: w, Wide: wide, High: high}
}

var (
	bare  = judge(sq, 50)
	small = grid(0, 0, 2, 2, 1, 2)
	x0, _ = trap.Around(m, 0, 2)
	j     = judge(m, 40, x0)
	g     = grid(0.1-0.05i, -3, 20, 14, 6, 5)
)

func drawn(j *status.Judge, g api.Grid, numbers ...int) api.Draw {
	x, _ := mosaic.New(j, g)
	x.Draw(numbers...)
	d, e := Of(j, x)
	if e != api.OK {
		panic(e)
	}
	return d
}

func change(d api.Draw, do func(d *api.Draw)) api.Draw {
	d = own(d)
	do(&d)
	return d
}

func TestExamples(t *testing.T) {
	d, e := Begin(bare, small)
	left, f := Left(d)
	s, h := Write(d)
	if e != api.OK || f != api.OK || h != api.OK || !slices.Equal(left, []int{0, 1}) || len(s) != 99 {
		t.Error(e, f, h, left, len(s))
	}
	for _, c := range []struct {
		s string
		e api.Errno
	}{{s, 0}, {s + "\x00", api.ErrStore}, {s[:98], api.ErrStore}, {"", api.ErrStore}} {
		if back, e := Read(c.s); e != c.e || e == api.OK && !Same(back, d) || e != api.OK && !Same(back, none) {
			t.Error(len(c.s), e)
		}
	}
	one := drawn(bare, small, 1)
	if left, e := Left(one); !slices.Equal(left, []int{0}) || e != api.OK {
		t.Error(left, e)
	}
	if x, e := Merge(d, one); !Same(x, one) || e != api.OK {
		t.Error(e)
	}
	if x, e := Merge(one, d); !Same(x, one) || e != api.OK {
		t.Error(e)
	}
	k, x, e := Resume(one)
	if e != api.OK || !slices.Equal(x.Left(), []int{0}) || k.Steps() != 50 {
		t.Error(e)
	}
	two := drawn(bare, small, 0, 1)
	if Check(change(two, func(d *api.Draw) { slices.Reverse(d.Tiles) })) != api.ErrDraw || Check(change(two, func(d *api.Draw) { d.Tiles[0].Cells[0] = api.Witness{Told: api.Out, Trap: 1} })) != api.ErrDraw {
		t.Error("Check")
	}
	false0 := change(two, func(d *api.Draw) { d.Tiles[0].Cells[0] = api.Witness{Told: api.Out} })
	if k, x, e := Resume(false0); k != nil || x != nil || e != api.ErrTold {
		t.Error(e)
	}
	if Check(false0) != api.OK {
		t.Error("whether they show it is not asked")
	}
}

func TestP28_1Check(t *testing.T) {
	good := drawn(j, g, 0, 3, 5)
	if Check(good) != api.OK || Check(none) != api.ErrDraw {
		t.Error("Check")
	}
	for i, c := range []struct {
		do func(d *api.Draw)
		ok bool
	}{
		{func(d *api.Draw) { d.Map.P = nil }, false},
		{func(d *api.Draw) { d.Steps = -1 }, false},
		{func(d *api.Draw) { d.Steps = 4097 }, false},
		{func(d *api.Draw) { d.Steps = 4096 }, true},
		{func(d *api.Draw) { d.Traps[0].Slope = 0 }, false},
		{func(d *api.Draw) { d.Traps = slices.Repeat(d.Traps, 65) }, false},
		{func(d *api.Draw) { d.Traps = slices.Repeat(d.Traps, 64) }, true},
		{func(d *api.Draw) { d.Grid.Wide = 0 }, false},
		{func(d *api.Draw) { d.Grid.Window.Across = 0 }, false},
		{func(d *api.Draw) { d.Grid.Wide = 7 }, false},
		{func(d *api.Draw) { d.Tiles[1] = d.Tiles[0] }, false},
		{func(d *api.Draw) { d.Tiles[1].Rect.Column++ }, false},
		{func(d *api.Draw) { d.Tiles[1].Cells = d.Tiles[1].Cells[1:] }, false},
		{func(d *api.Draw) { d.Tiles[1].Cells[0] = api.Witness{Step: 1} }, false},
		{func(d *api.Draw) { d.Tiles[1].Cells[0] = api.Witness{Trap: 1} }, false},
		{func(d *api.Draw) { d.Tiles[1].Cells[0] = api.Witness{Told: 3} }, false},
		{func(d *api.Draw) { d.Tiles[1].Cells[0] = api.Witness{Told: api.In, Trap: 1} }, false},
		{func(d *api.Draw) { d.Tiles[1].Cells[0] = api.Witness{Told: api.In, Trap: -1} }, false},
		{func(d *api.Draw) { d.Tiles[1].Cells[0] = api.Witness{Told: api.In, Step: 4097} }, false},
		{func(d *api.Draw) { d.Tiles[1].Cells[0] = api.Witness{Told: api.Out, Step: -1} }, false},
		{func(d *api.Draw) { d.Tiles[1].Cells[0] = api.Witness{Told: api.Out, Step: 4096} }, true},
		{func(d *api.Draw) { d.Tiles[1].Cells[0] = api.Witness{} }, true},
		{func(d *api.Draw) { d.Tiles = nil }, true},
	} {
		d := change(good, c.do)
		if (Check(d) == api.OK) != c.ok {
			t.Error(i, Check(d))
		}
		if c.ok {
			continue
		}
		k, x, e1 := Resume(d)
		l, e2 := Left(d)
		a, e3 := Merge(d, good)
		b, e4 := Merge(good, d)
		f, e5 := First(d, -1)
		s, e6 := Write(d)
		if k != nil || x != nil || l != nil || s != "" || !Same(a, none) || !Same(b, none) || !Same(f, none) {
			t.Error("an answer beside an error", i)
		}
		for n, e := range []api.Errno{e1, e2, e3, e4, e5, e6} {
			if e != api.ErrDraw {
				t.Error(i, n, e)
			}
		}
	}
	d, e := Begin(j, g)
	if e != api.OK || d.Steps != 40 || !slices.Equal(d.Traps, []api.Trap{x0}) || !slices.Equal(d.Map.P, m.P) || d.Grid != g || len(d.Tiles) != 0 {
		t.Error(d, e)
	}
	for _, c := range []struct {
		j *status.Judge
		g api.Grid
		e api.Errno
	}{{nil, api.Grid{}, api.ErrNil}, {&status.Judge{}, g, api.ErrNil}, {j, api.Grid{}, api.ErrWindow}, {j, grid(0, 0, 2, 2, 0, 1), api.ErrArg}} {
		if d, e := Begin(c.j, c.g); !Same(d, none) || e != c.e {
			t.Error(e)
		}
	}
}

func TestP28_2_P28_3(t *testing.T) {
	x, _ := mosaic.New(j, g)
	x.Draw(7, 2)
	d, e := Of(j, x)
	if e != api.OK || len(d.Tiles) != 2 || d.Grid != g || d.Steps != 40 {
		t.Fatal(e)
	}
	for i, n := range []int{2, 7} {
		if want, _ := x.Tile(n); !tile.Same(d.Tiles[i], want) {
			t.Error(n)
		}
	}
	d.Tiles[0].Cells[0].Step = 99
	if y, _ := x.Tile(2); y.Cells[0].Step == 99 {
		t.Error("shares its memory")
	}
	for _, c := range []struct {
		j *status.Judge
		x *mosaic.Mosaic
		e api.Errno
	}{{nil, x, api.ErrNil}, {j, nil, api.ErrNil}, {&status.Judge{}, x, api.ErrNil}, {j, &mosaic.Mosaic{}, api.ErrNil}, {bare, x, api.ErrDraw}} {
		if c.e == api.ErrDraw {
			x.Work(4, 99) // so that a cell is in a trap, which the other judge has not
		}
		if d, e := Of(c.j, c.x); !Same(d, none) || e != c.e {
			t.Error(e, c.e)
		}
	}
	d = drawn(j, g, 2, 7, 1)
	k, y, e := Resume(d)
	if e != api.OK || k.Steps() != 40 || !slices.Equal(k.Traps(), d.Traps) || y.Len() != 3 || y.Grid() != g {
		t.Error(e)
	}
	left, _ := Left(d)
	if !slices.Equal(y.Left(), left) || len(left) != y.Total()-3 {
		t.Error(left)
	}
	back, e := Of(k, y)
	if !Same(back, d) || e != api.OK {
		t.Error(e)
	}
}

func TestP28_4_P28_8(t *testing.T) {
	a, b := drawn(j, g, 0, 4, 7), drawn(j, g, 4, 2, 9)
	x, e := Merge(a, b)
	y, f := Merge(b, a)
	if e != api.OK || f != api.OK || !Same(x, y) || !Same(x, drawn(j, g, 0, 2, 4, 7, 9)) {
		t.Error(e, f)
	}
	blank := change(b, func(d *api.Draw) { clear(d.Tiles[1].Cells) })
	if x, _ := Merge(a, blank); !Same(x, drawn(j, g, 0, 2, 4, 7, 9)) {
		t.Error("a's own tile stays")
	}
	if x, _ := Merge(blank, a); Same(x, y) || !tile.Same(x.Tiles[2], blank.Tiles[1]) {
		t.Error("a's own tile stays")
	}
	x.Tiles[0].Cells[0].Step, x.Map.P[0] = 99, 9
	if !Same(a, drawn(j, g, 0, 4, 7)) {
		t.Error("shares its memory")
	}
	minus := math.Copysign(0, -1)
	for i, other := range []api.Draw{drawn(judge(m, 41, x0), g), drawn(judge(m, 40), g), drawn(judge(sq, 40), g), drawn(j, grid(0.1-0.05i, -3, 20, 14, 5, 5)), drawn(j, grid(0.1, -3, 20, 14, 6, 5)), drawn(judge(api.Map{P: api.Poly{-1, complex(minus, 0), 1}, Q: one}, 40, x0), g)} {
		if x, e := Merge(a, other); !Same(x, none) || e != api.ErrJob {
			t.Error(i, e)
		}
		if Same(a, other) {
			t.Error(i)
		}
	}
	all, _ := Left(change(a, func(d *api.Draw) { d.Tiles = nil }))
	for n := range 4 {
		x, e := First(a, n)
		left, _ := Left(x)
		if e != api.OK || len(x.Tiles) != n || len(left) != len(all)-n {
			t.Error(n, e)
		}
		for i := range n {
			if !tile.Same(x.Tiles[i], a.Tiles[i]) {
				t.Error(n, i)
			}
			x.Tiles[i].Cells[0].Step = 99
		}
	}
	if !Same(a, drawn(j, g, 0, 4, 7)) {
		t.Error("shares its memory")
	}
	for _, n := range []int{-1, 4, math.MaxInt, math.MinInt} {
		if x, e := First(a, n); !Same(x, none) || e != api.ErrArg {
			t.Error(n, e)
		}
	}
	nan := api.Draw{Map: api.Map{P: api.Poly{complex(math.NaN(), 0)}}}
	if !Same(nan, own(nan)) || Same(a, b) || !Same(none, api.Draw{Tiles: []api.Tile{}, Traps: []api.Trap{}}) {
		t.Error("Same")
	}
}

func TestP28_5_P28_6(t *testing.T) {
	far := grid(0, 4096, 3, 1, 2, 1)
	far.Window.Centre = api.Gauss{Re: api.Dyad{Neg: true, N: "\x01\x01", Exp: -api.MaxExp}, Im: api.Dyad{N: "\x07", Exp: 12}}
	huge := grid(0, -10, 256, 257, 256, 256)
	long := grid(0, 3, 65536, 1, 65536, 1)
	var texts []string
	for i, d := range []api.Draw{drawn(j, g), drawn(j, g, 0, 3, 5, 11), drawn(j, far, 0, 1), drawn(bare, small, 1), drawn(bare, huge, 1)} {
		s, e := Write(d)
		back, f := Read(s)
		if e != api.OK || f != api.OK || !Same(back, d) {
			t.Error(i, e, f)
		}
		texts = append(texts, s)
	}
	// a run of more than 65535 cells is two
	d, _ := Begin(bare, long)
	d.Tiles = []api.Tile{{Rect: api.Rect{Across: 65536, Down: 1}, Cells: make([]api.Witness, 65536)}}
	s, e := Write(d)
	if back, f := Read(s); e != api.OK || f != api.OK || !Same(back, d) || !strings.HasSuffix(s, "\x00\x00\x00\x00\xff\xff\x00\x00\x00\x00\x00\x01\x00\x00\x00\x00") {
		t.Error(e, f)
	}
	parted := s[:len(s)-12] + "\xff\xfe\x00\x00\x00\x00\x00\x02\x00\x00\x00\x00"
	if _, f := Read(parted); f != api.ErrStore {
		t.Error("runs are as long as can be", f)
	}
	for i, s := range texts {
		for k, other := range texts {
			if i != k && strings.HasPrefix(s, other) {
				t.Error("begins with another one's", i, k)
			}
		}
	}
	s = texts[2]
	at := 4 + 49 + 17 + 2 + 1 + 33
	want := "\x02\x00\x02\x01\x01\x7f\xf0\x00\x00" + "\x01\x00\x01\x07\x80\x00\x00\x0c" + "\x80\x00\x10\x00" + "\x00\x00\x00\x03\x00\x00\x00\x01" + "\x00\x00\x00\x02\x00\x00\x00\x01" + "\x00\x00\x00\x02" + "\x00\x00\x00\x00" + "\x00\x02\x00\x00\x00\x00" + "\x00\x00\x00\x01" + "\x00\x01\x00\x00\x00\x00"
	if s[at:] != want || s[:5] != "FLD\x01\x03" || s[4+49+17:4+49+17+3] != "\x00\x28\x01" {
		t.Errorf("%q", s[at:])
	}
	for i := range len(s) {
		if d, e := Read(s[:i]); !Same(d, none) || e != api.ErrStore {
			t.Error(i, e)
		}
		for _, x := range []byte{0, 1, 2, 255, s[i] + 1} {
			b := s[:i] + string([]byte{x}) + s[i+1:]
			d, e := Read(b)
			if e == api.OK {
				if again, f := Write(d); again != b || f != api.OK {
					t.Error("not as it was", i, x)
				}
			} else if e != api.ErrStore || !Same(d, none) {
				t.Error(i, e)
			}
		}
	}
	if d, e := Read(strings.Repeat("x", api.MaxStore+1)); !Same(d, none) || e != api.ErrLong {
		t.Error(e)
	}
	if _, e := Read(strings.Repeat("x", api.MaxStore)); e != api.ErrStore {
		t.Error(e)
	}
	// as many cells as no two of which are alike side by side: 6 bytes each
	wide := grid(0, -12, 4096, 2800, 256, 256)
	big, _ := Begin(bare, wide)
	for _, r := range tile.Rects(wide) {
		cells := make([]api.Witness, r.Across*r.Down)
		for i := 0; i < len(cells); i += 2 {
			cells[i] = api.Witness{Told: api.Out}
		}
		big.Tiles = append(big.Tiles, api.Tile{Rect: r, Cells: cells})
	}
	if s, e := Write(big); s != "" || e != api.ErrLong {
		t.Error(len(s), e)
	}
}

func TestP28_7(t *testing.T) {
	r := rand.New(rand.NewSource(39))
	want, _ := tile.Draw(j, g.Window, api.Rect{Across: 20, Down: 14})
	for range 4 {
		judge := j
		x, _ := mosaic.New(judge, g)
		for x.Len() < x.Total() {
			if r.Intn(2) == 0 {
				x.Work(1+r.Intn(5), 1+r.Intn(4))
			} else {
				x.Draw(r.Intn(x.Total()))
			}
			d, e1 := Of(judge, x)
			s, e2 := Write(d)
			back, e3 := Read(s)
			var e4 api.Errno
			if judge, x, e4 = Resume(back); e1+e2+e3+e4 != 0 {
				t.Fatal(e1, e2, e3, e4)
			}
		}
		if whole, e := x.Whole(); !tile.Same(whole, want) || e != api.OK {
			t.Error(e)
		}
	}
}
