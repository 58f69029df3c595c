package tile

import (
	"math"
	"math/rand"
	"slices"
	"testing"

	"filigree/api"
	"filigree/ball"
	"filigree/gauss"
	"filigree/status"
	"filigree/trap"
	"filigree/view"
)

var (
	sq   = api.Map{P: api.Poly{0, 0, 1}, Q: api.Poly{1}}
	m    = api.Map{P: api.Poly{-1, 0, 1}, Q: api.Poly{1}}
	none = api.Tile{}
)

func judge(m api.Map, steps int, z complex128, n int) *status.Judge {
	x, e := trap.Around(m, z, n)
	if e != api.OK {
		panic(e)
	}
	j, e := status.New(m, steps, x)
	if e != api.OK {
		panic(e)
	}
	return j
}

func win(c complex128, exp, across, down int) api.Window {
	w, e := view.Make(c, exp, across, down)
	if e != api.OK {
		panic(e)
	}
	return w
}

var (
	j  = judge(m, 50, 0, 2)
	w0 = win(0.125, -3, 30, 22)
)

func grids() []api.Grid {
	return []api.Grid{{Window: w0, Wide: 7, High: 5}, {Window: w0, Wide: 30, High: 22}, {Window: w0, Wide: 1, High: 22}, {Window: w0, Wide: 100, High: 3}, {Window: win(0, 0, 4, 4), Wide: 3, High: 2}, {Window: win(0, 0, 1, 1), Wide: 65536, High: 1}}
}

func wrongGrids() map[api.Grid]api.Errno {
	return map[api.Grid]api.Errno{{}: api.ErrWindow, {Wide: 1, High: 1}: api.ErrWindow, {Window: w0}: api.ErrArg, {Window: w0, Wide: 0, High: 1}: api.ErrArg, {Window: w0, Wide: 1, High: -1}: api.ErrArg, {Window: w0, Wide: 300, High: 300}: api.ErrArg, {Window: w0, Wide: 1 << 33, High: 1 << 33}: api.ErrArg, {Window: w0, Wide: math.MaxInt, High: 2}: api.ErrArg, {Window: win(0, 0, 65536, 2), Wide: 1, High: 1}: api.ErrArg}
}

func TestP25_1_P25_10(t *testing.T) {
	for _, g := range grids() {
		across, down, e := Count(g)
		if e != api.OK || Check(g) != api.OK || (across-1)*g.Wide >= g.Window.Across || across*g.Wide < g.Window.Across || (down-1)*g.High >= g.Window.Down || down*g.High < g.Window.Down {
			t.Error(g, across, down, e)
		}
		met := map[[2]int]int{}
		next := 0
		for n, r := range Rects(g) {
			if n != next || r.Column != n%across*g.Wide || r.Row != n/across*g.High || r.Across < 1 || r.Down < 1 || r.Across > g.Wide || r.Down > g.High {
				t.Error(g, n, r)
			}
			next++
			if s, e := Rect(g, n); s != r || e != api.OK {
				t.Error(g, n, s, e)
			}
			for x := r.Column; x < r.Column+r.Across; x++ {
				for y := r.Row; y < r.Row+r.Down; y++ {
					met[[2]int{x, y}]++
					if at, e := At(g, x, y); at != n || e != api.OK {
						t.Error(g, x, y, at, e)
					}
				}
			}
		}
		if next != across*down || len(met) != g.Window.Across*g.Window.Down {
			t.Error(g, next, len(met))
		}
		for at, n := range met {
			if n != 1 {
				t.Error(g, at, n)
			}
		}
		for _, n := range []int{-1, across * down, math.MaxInt, math.MinInt} {
			if r, e := Rect(g, n); r != (api.Rect{}) || e != api.ErrArg {
				t.Error(g, n, r, e)
			}
		}
		for _, at := range [][2]int{{-1, 0}, {0, -1}, {g.Window.Across, 0}, {0, g.Window.Down}, {math.MaxInt, math.MinInt}} {
			if n, e := At(g, at[0], at[1]); n != 0 || e != api.ErrCell {
				t.Error(g, at, n, e)
			}
		}
		for range Rects(g) {
			break
		}
	}
	for g, want := range wrongGrids() {
		a, d, e1 := Count(g)
		r, e2 := Rect(g, -1)
		n, e3 := At(g, -1, 0)
		x, e4 := Join(g)
		if Check(g) != want || e1 != want || e2 != want || e3 != want || e4 != want || a+d+n != 0 || r != (api.Rect{}) || !Same(x, none) {
			t.Error(g, e1, e2, e3, e4)
		}
		for range Rects(g) {
			t.Error(g)
		}
	}
	if Check(api.Grid{Window: win(0, 0, 65536, 1), Wide: 1, High: 1}) != api.OK || Check(api.Grid{Window: w0, Wide: 256, High: 256}) != api.OK {
		t.Error("edges")
	}
	g := api.Grid{Window: win(0, 0, 4, 4), Wide: 3, High: 2}
	if r, e := Rect(g, 1); r != (api.Rect{Column: 3, Across: 1, Down: 2}) || e != api.OK {
		t.Error(r, e)
	}
}

func TestP25_2_P25_3_P25_8_P25_9(t *testing.T) {
	all := api.Rect{Across: 30, Down: 22}
	whole, e := Draw(j, w0, all)
	if e != api.OK || whole.Rect != all || len(whole.Cells) != 660 {
		t.Fatal(e)
	}
	in, out, unknown, e := Counts(whole)
	if in < 20 || out < 50 || in+out+unknown != 660 || e != api.OK {
		t.Error(in, out, unknown, e)
	}
	for i, w := range whole.Cells {
		s, _ := view.Cell(w0, i%30, i/30)
		b, _ := view.Cover(s)
		if want, _ := j.Witness(b); w != want {
			t.Error(i, w, want)
		}
		if c, e := Cell(j, w0, i%30, i/30); c != w || e != api.OK {
			t.Error(i, c, e)
		}
		corners, _ := view.Corners(s)
		for _, c := range corners {
			if z, _ := gauss.Near(c); w.Told != api.Unknown && j.Tell(ball.Point(z)) != w.Told && j.Tell(ball.Point(z)) != api.Unknown {
				t.Error("a corner told otherwise", i)
			}
		}
		parts, _ := view.Parts(s)
		for _, p := range parts {
			b, _ := view.Cover(p)
			if !status.Agree(j.Tell(b), w.Told) {
				t.Error("a part told otherwise", i)
			}
		}
	}
	if at, ok, e := Shows(j, w0, whole); at != 0 || !ok || e != api.OK {
		t.Error(at, ok, e)
	}
	r := rand.New(rand.NewSource(35))
	for range 40 {
		rect := api.Rect{Column: r.Intn(30), Row: r.Intn(22)}
		rect.Across, rect.Down = 1+r.Intn(30-rect.Column), 1+r.Intn(22-rect.Row)
		drawn, e := Draw(j, w0, rect)
		cut, f := Cut(whole, rect)
		if e != api.OK || f != api.OK || !Same(drawn, cut) {
			t.Error(rect, e, f)
		}
		cropped, _ := view.Crop(w0, rect.Column, rect.Row, rect.Across, rect.Down)
		own, _ := Draw(j, cropped, api.Rect{Across: rect.Across, Down: rect.Down})
		if !slices.Equal(own.Cells, drawn.Cells) {
			t.Error("cropped", rect)
		}
	}
	for _, g := range grids()[:4] {
		var l []api.Tile
		for _, rect := range Rects(g) {
			x, _ := Draw(j, w0, rect)
			l = append(l, x)
		}
		r.Shuffle(len(l), func(i, k int) { l[i], l[k] = l[k], l[i] })
		if x, e := Join(g, l...); !Same(x, whole) || e != api.OK {
			t.Error(g, e)
		}
		if x, e := Join(g, l[1:]...); !Same(x, none) || e != api.ErrTile {
			t.Error(g, e)
		}
		if x, e := Join(g, append(slices.Clone(l[1:]), l[0], l[0])...); !Same(x, none) || e != api.ErrTile {
			t.Error(g, e)
		}
		if len(l) > 1 {
			if x, e := Join(g, append(slices.Clone(l[1:]), l[1])...); !Same(x, none) || e != api.ErrTile {
				t.Error("twice", g, e)
			}
			bad := slices.Clone(l)
			bad[0].Cells = bad[0].Cells[1:]
			if x, e := Join(g, bad...); !Same(x, none) || e != api.ErrTile {
				t.Error("may not be", g, e)
			}
		}
	}
	// a cell whose square or cover is not there is Unknown
	far := api.Window{Centre: api.Gauss{Re: api.Dyad{N: "\x01", Exp: 1100}}, Across: 2, Down: 1}
	thin := api.Window{Centre: api.Gauss{Re: api.Dyad{N: "\x01", Exp: -api.MaxExp}}, Exp: 1, Across: 1, Down: 1}
	for _, w := range []api.Window{far, thin} {
		if c, e := Cell(j, w, 0, 0); c != (api.Witness{}) || e != api.OK {
			t.Error(c, e)
		}
		x, e := Draw(j, w, api.Rect{Across: w.Across, Down: 1})
		if e != api.OK || !slices.Equal(x.Cells, make([]api.Witness, w.Across)) {
			t.Error(x, e)
		}
		if _, ok, _ := Shows(j, w, x); !ok {
			t.Error("noughts are shown")
		}
		x.Cells[0] = api.Witness{Told: api.Out}
		if at, ok, e := Shows(j, w, x); at != 0 || ok || e != api.OK {
			t.Error(at, ok, e)
		}
	}
}

func TestErrors(t *testing.T) {
	one := api.Rect{Across: 1, Down: 1}
	bad := api.Window{}
	for _, c := range []struct {
		j *status.Judge
		w api.Window
		e api.Errno
	}{{nil, bad, api.ErrNil}, {&status.Judge{}, w0, api.ErrNil}, {j, bad, api.ErrWindow}} {
		x, e1 := Cell(c.j, c.w, -1, 0)
		y, e2 := Draw(c.j, c.w, api.Rect{})
		n, ok, e3 := Shows(c.j, c.w, none)
		if x != (api.Witness{}) || !Same(y, none) || n != 0 || ok || e1 != c.e || e2 != c.e || e3 != c.e {
			t.Error(e1, e2, e3)
		}
	}
	for _, at := range [][2]int{{-1, 0}, {0, -1}, {30, 0}, {0, 22}, {math.MaxInt, math.MaxInt}, {math.MinInt, 0}} {
		if x, e := Cell(j, w0, at[0], at[1]); x != (api.Witness{}) || e != api.ErrCell {
			t.Error(at, x, e)
		}
	}
	wrong := []api.Rect{{}, {Across: 1}, {Down: 1}, {Column: -1, Across: 1, Down: 1}, {Row: -1, Across: 1, Down: 1}, {Across: 31, Down: 1}, {Across: 1, Down: 23}, {Column: 1, Across: 30, Down: 1}, {Row: 1, Across: 1, Down: 22}, {Column: math.MaxInt, Across: math.MaxInt, Down: 1}, {Across: math.MaxInt, Down: math.MaxInt}, {Column: math.MinInt, Across: 1, Down: 1}, {Across: -1, Down: -1}}
	whole, _ := Draw(j, w0, api.Rect{Across: 30, Down: 22})
	for _, r := range wrong {
		x, e := Draw(j, w0, r)
		y, f := Cut(whole, r)
		if !Same(x, none) || !Same(y, none) || e != api.ErrCell || f != api.ErrCell {
			t.Error(r, e, f)
		}
	}
	if x, e := Draw(j, win(0, 0, 300, 300), api.Rect{Across: 300, Down: 300}); !Same(x, none) || e != api.ErrLong {
		t.Error(e)
	}
	part, _ := Cut(whole, api.Rect{Column: 3, Row: 4, Across: 5, Down: 6})
	for _, r := range []api.Rect{{Column: 2, Row: 4, Across: 1, Down: 1}, {Column: 3, Row: 3, Across: 1, Down: 1}, {Column: 3, Row: 4, Across: 6, Down: 1}, {Column: 7, Row: 9, Across: 1, Down: 2}, {Column: 8, Row: 4, Across: 1, Down: 1}} {
		if x, e := Cut(part, r); !Same(x, none) || e != api.ErrCell {
			t.Error(r, e)
		}
	}
	if x, e := Cut(part, part.Rect); !Same(x, part) || e != api.OK {
		t.Error(e)
	} else if x.Cells[0].Step = 77; part.Cells[0].Step == 77 {
		t.Error("shares its memory")
	}
	for _, x := range []api.Tile{{}, {Rect: one}, {Rect: one, Cells: make([]api.Witness, 2)}, {Rect: api.Rect{Column: -1, Across: 1, Down: 1}, Cells: make([]api.Witness, 1)}, {Rect: api.Rect{Row: -1, Across: 1, Down: 1}, Cells: make([]api.Witness, 1)}, {Rect: api.Rect{Across: -1, Down: -1}, Cells: make([]api.Witness, 1)}, {Rect: api.Rect{Across: 1 << 32, Down: 1 << 32}}, {Rect: api.Rect{Across: 1<<22 + 1, Down: 1}, Cells: make([]api.Witness, 1<<22+1)}} {
		n, ok, e1 := Shows(j, w0, x)
		a, b, c, e2 := Counts(x)
		y, e3 := Cut(x, one)
		if n+a+b+c != 0 || ok || !Same(y, none) || e1 != api.ErrTile || e2 != api.ErrTile || e3 != api.ErrTile {
			t.Error(x.Rect, e1, e2, e3)
		}
	}
	if _, _, e := Shows(j, w0, api.Tile{Rect: api.Rect{Column: 30, Across: 1, Down: 1}, Cells: make([]api.Witness, 1)}); e != api.ErrCell {
		t.Error(e)
	}
	if x, e := Join(api.Grid{Window: win(0, 0, 2049, 2048), Wide: 256, High: 256}); !Same(x, none) || e != api.ErrLong {
		t.Error(e)
	}
	changed := api.Tile{Rect: whole.Rect, Cells: slices.Clone(whole.Cells)}
	at := slices.IndexFunc(changed.Cells, func(w api.Witness) bool { return w.Told == api.In })
	changed.Cells[at].Told = api.Out
	if n, ok, e := Shows(j, w0, changed); n != at || ok || e != api.OK {
		t.Error(n, ok, e)
	}
	changed.Cells[at] = api.Witness{Step: 1}
	if n, ok, e := Shows(j, w0, changed); n != at || ok || e != api.OK {
		t.Error("Unknown with a Step", n, ok, e)
	}
	changed.Cells[at] = api.Witness{}
	if _, ok, e := Shows(j, w0, changed); !ok || e != api.OK {
		t.Error("a zero one", ok, e)
	}
	if Same(whole, changed) || !Same(none, api.Tile{Cells: []api.Witness{}}) || Same(none, api.Tile{Rect: one}) {
		t.Error("Same")
	}
	in, out, unknown, e := Counts(api.Tile{Rect: api.Rect{Across: 4, Down: 1}, Cells: []api.Witness{{Told: api.In}, {Told: api.Out}, {Told: 7}, {Told: api.Out}}})
	if in != 1 || out != 2 || unknown != 1 || e != api.OK {
		t.Error(in, out, unknown, e)
	}
	k := judge(sq, 50, 0, 1)
	for _, at := range [][2]int{{1, 1}, {0, 0}} {
		if c, e := Cell(k, win(0, 0, 4, 4), at[0], at[1]); c != (api.Witness{}) || e != api.OK {
			t.Error(at, c, e)
		}
	}
}
