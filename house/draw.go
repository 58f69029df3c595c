package house

import (
	"filigree/api"
	"filigree/cert"
	"filigree/dyad"
	"filigree/mosaic"
	"filigree/picture"
	"filigree/refine"
	"filigree/status"
	"filigree/store"
	"filigree/view"
)

// judged is the judge, if an order that asks for a map and a window is not refused ahead.
func (h *House) judged(kind api.OrderKind) (*status.Judge, api.Errno) {
	if e := h.ready(deeds()[kind]); e != api.OK {
		return nil, e
	}
	return h.Judge()
}

func (h *House) Draw() (api.Tile, api.Errno) {
	j, e := h.judged(api.OrderDraw)
	if e != api.OK {
		return api.Tile{}, e
	}
	x, e := mosaic.New(j, api.Grid{Window: h.window, Wide: h.wide, High: h.high})
	if e != api.OK {
		return api.Tile{}, e
	}
	if h.stop == 0 {
		_, e = x.Work(h.workers, x.Total())
	}
	for e == api.OK && x.Len() < x.Total() {
		if _, e = x.Work(h.workers, h.stop); e == api.OK {
			j, x, e = again(j, x)
		}
	}
	if e != api.OK {
		return api.Tile{}, e
	}
	return x.Whole()
}

// again lays a mosaic down as bytes, and takes it up from these.
func again(j *status.Judge, x *mosaic.Mosaic) (*status.Judge, *mosaic.Mosaic, api.Errno) {
	d, e := store.Of(j, x)
	if e != api.OK {
		return nil, nil, e
	}
	s, e := store.Write(d)
	if e != api.OK {
		return nil, nil, e
	}
	d, e = store.Read(s)
	if e != api.OK {
		return nil, nil, e
	}
	return store.Resume(d)
}

func (h *House) Picture() (api.Picture, api.Errno) {
	t, e := h.Draw()
	if e != api.OK {
		return api.Picture{}, e
	}
	return picture.Of(t)
}

func (h *House) Areas() (in, out, unknown api.Dyad, e api.Errno) {
	j, e := h.judged(api.OrderAreas)
	if e != api.OK {
		return api.Dyad{}, api.Dyad{}, api.Dyad{}, e
	}
	var sums [3]api.Dyad
	for _, s := range view.Cells(h.window) {
		areas, e := h.areasOf(s, j)
		if e != api.OK {
			return api.Dyad{}, api.Dyad{}, api.Dyad{}, e
		}
		for i := range sums {
			if sums[i], e = dyad.Add(sums[i], areas[i]); e != api.OK {
				return api.Dyad{}, api.Dyad{}, api.Dyad{}, e
			}
		}
	}
	return sums[0], sums[1], sums[2], api.OK
}

// areasOf are the three areas of one cell, parted as deep as the house says.
func (h *House) areasOf(s api.Square, j *status.Judge) ([3]api.Dyad, api.Errno) {
	t, e := refine.New(s, j)
	if e != api.OK {
		return [3]api.Dyad{}, e
	}
	if _, e := t.Down(h.depth); e != api.OK {
		return [3]api.Dyad{}, e
	}
	in, out, unknown, e := t.Areas()
	return [3]api.Dyad{in, out, unknown}, e
}

func (h *House) Certificate() (api.Cert, string, api.Errno) {
	j, e := h.judged(api.OrderCertify)
	if e != api.OK {
		return api.Cert{}, "", e
	}
	var covers []api.Ball
	for _, s := range view.Cells(h.window) {
		if b, e := view.Cover(s); e == api.OK {
			covers = append(covers, b)
		}
	}
	c, e := cert.Make(j, covers...)
	if e != api.OK {
		return api.Cert{}, "", e
	}
	s, e := cert.Write(c)
	if e != api.OK {
		return api.Cert{}, "", e
	}
	if c, _, e = cert.Verify(s); e != api.OK {
		return api.Cert{}, "", e
	}
	return c, s, api.OK
}
