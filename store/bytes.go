package store

import (
	"filigree/api"
	"filigree/tile"
	"filigree/wire"
)

const (
	head     = "FLD\x01"
	maxRun   = 1<<16 - 1
	runLen   = 6       // bytes
	leastOne = 1 << 31 // is added to whole numbers
)

func writeWhole(w *wire.Writer, n int) { w.Number(uint64(n+leastOne), 4) }

func writeDyad(w *wire.Writer, d api.Dyad) {
	sign := uint64(1)
	switch {
	case d == api.Dyad{}:
		w.Number(0, 1)
		return
	case d.Neg:
		sign = 2
	}
	w.Number(sign, 1)
	w.Number(uint64(len(d.N)), 2)
	w.Text(string(d.N))
	writeWhole(w, d.Exp)
}

func writeRuns(w *wire.Writer, cells []api.Witness) {
	for len(cells) > 0 {
		many := 0
	run:
		for _, c := range cells {
			if c != cells[0] || many == maxRun {
				break run
			}
			many++
		}
		w.Number(uint64(many), 2)
		w.Witness(cells[0])
		cells = cells[many:]
	}
}

func Write(d api.Draw) (string, api.Errno) {
	drawn, ok := numbers(d)
	if !ok {
		return "", api.ErrDraw
	}
	w := &wire.Writer{}
	w.Text(head)
	w.Poly(d.Map.P)
	w.Poly(d.Map.Q)
	w.Number(uint64(d.Steps), 2)
	w.Traps(d.Traps)
	g := d.Grid
	writeDyad(w, g.Window.Centre.Re)
	writeDyad(w, g.Window.Centre.Im)
	writeWhole(w, g.Window.Exp)
	for _, n := range []int{g.Window.Across, g.Window.Down, g.Wide, g.High, len(d.Tiles)} {
		w.Number(uint64(n), 4)
	}
	for i, t := range d.Tiles {
		w.Number(uint64(drawn[i]), 4)
		writeRuns(w, t.Cells)
		if len(w.Bytes) > api.MaxStore {
			return "", api.ErrLong
		}
	}
	return string(w.Bytes), api.OK
}

func readWhole(r *wire.Reader) int { return r.Int(4) - leastOne }

func readDyad(r *wire.Reader) api.Dyad {
	sign := r.Int(1)
	if sign == 0 {
		return api.Dyad{}
	}
	r.Sure(sign <= 2)
	long := r.Int(2)
	r.Sure(long > 0)
	n := api.Nat(r.Text(long))
	return api.Dyad{Neg: sign == 2, N: n, Exp: readWhole(r)}
}

func readGrid(r *wire.Reader) api.Grid {
	var g api.Grid
	g.Window.Centre.Re = readDyad(r)
	g.Window.Centre.Im = readDyad(r)
	g.Window.Exp = readWhole(r)
	g.Window.Across = r.Int(4)
	g.Window.Down = r.Int(4)
	g.Wide = r.Int(4)
	g.High = r.Int(4)
	r.Sure(tile.Check(g) == api.OK)
	return g
}

// readTile takes up a tile of the grid; each of its runs must be as long as can be.
func readTile(r *wire.Reader, g api.Grid) api.Tile {
	rect, e := tile.Rect(g, r.Int(4))
	r.Sure(e == api.OK)
	left := rect.Across * rect.Down
	var cells []api.Witness
	long := true
	for left > 0 {
		many := r.Int(2)
		w := r.Witness()
		r.Sure(many > 0 && many <= left && (long || w != cells[len(cells)-1]))
		for range many {
			cells = append(cells, w)
		}
		left -= many
		long = many == maxRun
	}
	return api.Tile{Rect: rect, Cells: cells}
}

func Read(s string) (d api.Draw, e api.Errno) {
	if len(s) > api.MaxStore {
		return api.Draw{}, api.ErrLong
	}
	defer func() {
		if r := recover(); r != nil {
			if _, ok := r.(wire.Broken); !ok {
				panic(r)
			}
			d, e = api.Draw{}, api.ErrStore
		}
	}()
	r := &wire.Reader{Rest: s}
	r.Sure(r.Text(len(head)) == head)
	d.Map.P = r.Poly()
	d.Map.Q = r.Poly()
	d.Steps = r.Int(2)
	d.Traps = r.Traps()
	d.Grid = readGrid(r)
	for range r.Many(4, api.MaxTiles, 4+runLen) {
		d.Tiles = append(d.Tiles, readTile(r, d.Grid))
	}
	r.Sure(r.Rest == "" && Check(d) == api.OK)
	return d, api.OK
}
