package mosaic

import (
	"math"
	"math/rand"
	"runtime"
	"slices"
	"testing"
	"time"

	"filigree/api"
	"filigree/status"
	"filigree/tile"
	"filigree/trap"
	"filigree/view"
)

var m = api.Map{P: api.Poly{-1, 0, 1}, Q: api.Poly{1}}

func judge(steps int) *status.Judge {
	x, _ := trap.Around(m, 0, 2)
	j, e := status.New(m, steps, x)
	if e != api.OK {
		panic(e)
	}
	return j
}

var j = judge(40)

func grid(across, down, wide, high int) api.Grid {
	w, e := view.Make(0.1, -3, across, down)
	if e != api.OK {
		panic(e)
	}
	return api.Grid{Window: w, Wide: wide, High: high}
}

var g = grid(10, 9, 5, 3) // 2 times 3 tiles

func fresh(g api.Grid) *Mosaic {
	x, e := New(j, g)
	if e != api.OK {
		panic(e)
	}
	return x
}

func same(t *testing.T, x *Mosaic, left ...int) {
	t.Helper()
	if !slices.Equal(x.Left(), left) || x.Len() != x.Total()-len(left) {
		t.Error("left", x.Left(), "not", left)
	}
	for n := range x.Total() {
		r, _ := tile.Rect(x.Grid(), n)
		want, _ := tile.Draw(j, x.Grid().Window, r)
		got, ok := x.Tile(n)
		if ok == slices.Contains(left, n) || ok && !tile.Same(got, want) || !ok && !tile.Same(got, api.Tile{}) {
			t.Error("tile", n, ok)
		}
	}
}

func TestP26_1(t *testing.T) {
	x := fresh(g)
	if x.Total() != 6 || x.Len() != 0 || x.Grid() != g {
		t.Error(x.Total(), x.Len())
	}
	same(t, x, 0, 1, 2, 3, 4, 5)
	x.Draw(4, 1)
	var told []int
	for n, y := range x.Tiles() {
		told = append(told, n)
		y.Cells[0].Step = 99
		x.Draw(5)
	}
	if !slices.Equal(told, []int{1, 4}) {
		t.Error("what there is when it begins", told)
	}
	same(t, x, 0, 2, 3)
	y, _ := x.Tile(1)
	y.Cells[0].Step = 99
	same(t, x, 0, 2, 3)
	for _, n := range []int{-1, 6, math.MaxInt, 0} {
		if y, ok := x.Tile(n); ok || !tile.Same(y, api.Tile{}) {
			t.Error(n)
		}
	}
	for range x.Tiles() {
		break
	}
	for _, c := range []struct {
		j *status.Judge
		g api.Grid
		e api.Errno
	}{{nil, api.Grid{}, api.ErrNil}, {&status.Judge{}, g, api.ErrNil}, {j, api.Grid{}, api.ErrWindow}, {j, grid(10, 9, 0, 1), api.ErrArg}} {
		if x, e := New(c.j, c.g); x != nil || e != c.e {
			t.Error(e)
		}
	}
	for _, x := range []*Mosaic{nil, {}} {
		n1, e1 := x.Draw(-1)
		n2, e2 := x.Work(0, -1)
		n3, e3 := x.Play(0, 5)
		w, e4 := x.Whole()
		y, ok := x.Tile(0)
		if x.Grid() != (api.Grid{}) || x.Total()+x.Len()+n1+n2+n3 != 0 || x.Left() != nil || ok || !tile.Same(y, w) || w.Cells != nil || x.Copy() != nil || e1 != api.ErrNil || e2 != api.ErrNil || e3 != api.ErrNil || e4 != api.ErrNil || x.Put(api.Tile{}) != api.ErrNil {
			t.Error("one that is none", e1, e2, e3, e4)
		}
		for range x.Tiles() {
			t.Error("tells")
		}
		for range x.Each(3) {
			t.Error("tells")
		}
	}
}

func TestP26_2_P26_3(t *testing.T) {
	x := fresh(g)
	if n, e := x.Draw(4, 1, 4); n != 2 || e != api.OK {
		t.Error(n, e)
	}
	same(t, x, 0, 2, 3, 5)
	for _, l := range [][]int{{6}, {-1}, {0, 6}, {math.MinInt}} {
		if n, e := x.Draw(l...); n != 0 || e != api.ErrArg {
			t.Error(l, n, e)
		}
	}
	if n, e := x.Work(3, 2); n != 2 || e != api.OK {
		t.Error(n, e)
	}
	same(t, x, 3, 5)
	for _, c := range [][2]int{{0, 1}, {65, 1}, {-1, 1}, {1, -1}, {math.MaxInt, 0}} {
		if n, e := x.Work(c[0], c[1]); n != 0 || e != api.ErrArg {
			t.Error(c, n, e)
		}
	}
	if n, e := x.Work(64, 0); n != 0 || e != api.OK {
		t.Error(n, e)
	}
	same(t, x, 3, 5)
	if n, e := x.Work(64, math.MaxInt); n != 2 || e != api.OK {
		t.Error(n, e)
	}
	same(t, x)
	if n, e := x.Work(1, 5); n != 0 || e != api.OK {
		t.Error(n, e)
	}
	if n, e := x.Draw(); n != 0 || e != api.OK {
		t.Error(n, e)
	}
}

// played is what a schedule draws, as the chapter says.
func played(left []int, workers int, turns []int) (drawn []int) {
	holds := make([]int, workers)
	for w := range holds {
		holds[w] = -1
	}
	for _, w := range turns {
		if holds[w] >= 0 {
			drawn = append(drawn, holds[w])
			holds[w] = -1
			continue
		}
		for _, n := range left {
			if !slices.Contains(drawn, n) && !slices.Contains(holds, n) {
				holds[w] = n
				break
			}
		}
	}
	return drawn
}

func TestP26_4_P26_11(t *testing.T) {
	x := fresh(g)
	if n, e := x.Play(2, 0, 1, 1, 0, 0); n != 2 || e != api.OK {
		t.Error(n, e)
	}
	same(t, x, 2, 3, 4, 5)
	r := rand.New(rand.NewSource(36))
	for range 30 {
		x := fresh(g)
		x.Draw(r.Intn(6))
		workers := 1 + r.Intn(5)
		var turns []int
		for range r.Intn(20) {
			turns = append(turns, r.Intn(workers))
		}
		want := played(x.Left(), workers, turns)
		left := slices.DeleteFunc(x.Left(), func(n int) bool { return slices.Contains(want, n) })
		n, e := x.Play(workers, turns...)
		if n != len(want) || e != api.OK || n > len(turns)/2 {
			t.Error(workers, turns, n, e)
		}
		same(t, x, left...)
	}
	x = fresh(g)
	if n, e := x.Play(3, slices.Repeat([]int{2, 0, 1}, 12)...); n != 6 || e != api.OK {
		t.Error(n, e)
	}
	same(t, x)
	x = fresh(g)
	for _, c := range []struct {
		workers int
		turns   []int
		e       api.Errno
	}{{2, []int{0, 1, 2}, api.ErrArg}, {2, []int{-1}, api.ErrArg}, {0, nil, api.ErrArg}, {65, nil, api.ErrArg}, {1, make([]int, api.MaxTurns+1), api.ErrLong}, {1, append(make([]int, api.MaxTurns+1), 1), api.ErrArg}, {1, nil, api.OK}, {1, []int{0}, api.OK}} {
		if n, e := x.Play(c.workers, c.turns...); n != 0 || e != c.e {
			t.Error(c.workers, len(c.turns), n, e)
		}
	}
	same(t, x, 0, 1, 2, 3, 4, 5)
}

func TestP26_5(t *testing.T) {
	for _, workers := range []int{1, 2, 3, 64} {
		for stop := range 8 {
			x := fresh(g)
			x.Draw(1, 3)
			n := 0
			for k, y := range x.Each(workers) {
				if k != n {
					t.Error(workers, k, n)
				}
				got, ok := x.Tile(k)
				if !ok || !tile.Same(got, y) {
					t.Error("not there when told", k)
				}
				y.Cells[0].Step = 99
				if n++; n == stop {
					break
				}
			}
			var left []int
			for k := max(n, 0); k < 6; k++ {
				if k != 1 && k != 3 {
					left = append(left, k)
				}
			}
			if want := 6; stop > 0 && stop < 6 && n != stop || (stop == 0 || stop >= 6) && n != want {
				t.Error(workers, stop, n)
			}
			same(t, x, left...)
		}
	}
	x := fresh(g)
	for _, workers := range []int{0, -1, 65} {
		for range x.Each(workers) {
			t.Error("tells")
		}
	}
	same(t, x, 0, 1, 2, 3, 4, 5)
	seq := x.Each(2)
	x.Draw(0)
	for range seq {
		break
	}
	same(t, x, 1, 2, 3, 4, 5)
	n := 0
	for range seq {
		n++
	}
	if n != 6 {
		t.Error("gone over again", n)
	}
	same(t, x)
}

func TestNoWorkerIsLeft(t *testing.T) {
	before := runtime.NumGoroutine()
	for range 20 {
		x := fresh(grid(20, 20, 2, 2))
		x.Work(16, 30)
		for n := range x.Each(16) {
			if n == 40 {
				break
			}
		}
		if after := runtime.NumGoroutine(); after > before {
			time.Sleep(10 * time.Millisecond) // one that is over may be counted still
			if after = runtime.NumGoroutine(); after > before {
				t.Fatal(before, after)
			}
		}
	}
}

func TestP26_6_P26_9(t *testing.T) {
	x := fresh(g)
	x.Draw(0, 2, 5)
	y := fresh(g)
	for _, n := range []int{5, 0, 2} {
		z, _ := x.Tile(n)
		if e := y.Put(z); e != api.OK {
			t.Error(n, e)
		}
		z.Cells[0].Step = 99
	}
	same(t, y, 1, 3, 4)
	y.Work(2, 9)
	x.Work(1, 9)
	a, e := x.Whole()
	b, f := y.Whole()
	if !tile.Same(a, b) || e != api.OK || f != api.OK {
		t.Error(e, f)
	}
	z, _ := x.Tile(3)
	blank := api.Tile{Rect: z.Rect, Cells: make([]api.Witness, len(z.Cells))}
	wrong := api.Tile{Rect: z.Rect, Cells: slices.Clone(z.Cells)}
	for i, w := range wrong.Cells {
		if w.Told == api.Out {
			wrong.Cells[i] = api.Witness{Told: api.In}
		} else {
			wrong.Cells[i] = api.Witness{Told: api.Out}
		}
	}
	v := fresh(g)
	for _, c := range []struct {
		t api.Tile
		e api.Errno
	}{{api.Tile{}, api.ErrTile}, {api.Tile{Rect: z.Rect}, api.ErrTile}, {api.Tile{Rect: api.Rect{Across: 4, Down: 3}, Cells: make([]api.Witness, 12)}, api.ErrTile}, {api.Tile{Rect: api.Rect{Column: 50, Across: 5, Down: 3}, Cells: make([]api.Witness, 15)}, api.ErrTile}, {api.Tile{Rect: api.Rect{Column: 1, Across: 5, Down: 3}, Cells: make([]api.Witness, 15)}, api.ErrTile}, {wrong, api.ErrTold}} {
		if e := v.Put(c.t); e != c.e {
			t.Error(c.t.Rect, e)
		}
	}
	same(t, v, 0, 1, 2, 3, 4, 5)
	if e := v.Put(blank); e != api.OK || v.Len() != 1 {
		t.Error(e)
	}
	if e := v.Put(z); e != api.OK {
		t.Error(e)
	}
	if got, _ := v.Tile(3); !tile.Same(got, blank) {
		t.Error("it stands as it was put")
	}
	if e := v.Put(wrong); e != api.ErrTold {
		t.Error("drawn already, but not shown", e)
	}
}

func TestP26_7_P26_8_P26_10(t *testing.T) {
	r := rand.New(rand.NewSource(37))
	want, _ := tile.Draw(j, g.Window, api.Rect{Across: 10, Down: 9})
	for _, g := range []api.Grid{g, grid(10, 9, 1, 1), grid(10, 9, 10, 9), grid(10, 9, 3, 100)} {
		for range 6 {
			x := fresh(g)
			for x.Len() < x.Total() {
				if w, e := x.Whole(); !tile.Same(w, api.Tile{}) || e != api.ErrState {
					t.Error(e)
				}
				switch r.Intn(4) {
				case 0:
					x.Draw(r.Intn(x.Total()))
				case 1:
					x.Work(1+r.Intn(8), 1+r.Intn(9))
				case 2:
					x.Play(2, 1, 0, 0, 1, 1)
				case 3:
					for n := range x.Each(1 + r.Intn(8)) {
						if n > r.Intn(x.Total()) {
							break
						}
					}
				}
			}
			if w, e := x.Whole(); !tile.Same(w, want) || e != api.OK {
				t.Error(g.Wide, g.High, e)
			}
			same(t, x)
		}
	}
	x := fresh(g)
	x.Draw(2)
	y := x.Copy()
	y.Draw(3)
	x.Draw(0)
	same(t, x, 1, 3, 4, 5)
	same(t, y, 0, 1, 4, 5)
	w, _ := view.Make(0, -60, 2049, 2048)
	long, _ := New(j, api.Grid{Window: w, Wide: 256, High: 256})
	long.many = long.Total() // as if all were drawn
	if x, e := long.Whole(); !tile.Same(x, api.Tile{}) || e != api.ErrLong {
		t.Error(e)
	}
}
