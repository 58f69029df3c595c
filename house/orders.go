package house

import (
	"slices"
	"strconv"
	"strings"

	"filigree/angle"
	"filigree/api"
	"filigree/ball"
	"filigree/bits"
	"filigree/dyad"
	"filigree/itin"
	"filigree/lamin"
	"filigree/maps"
	"filigree/picture"
	"filigree/ratio"
	"filigree/ratmap"
	"filigree/roots"
	"filigree/scene"
	"filigree/status"
	"filigree/tile"
	"filigree/trap"
	"filigree/view"
	"filigree/wind"
)

// deed is what an order does, and what it asks for ahead.
type deed struct {
	mapped, windowed bool
	long             func(h *House) bool // of those that ask for a window: is there too much of it?
	do               func(h *House, o api.Order) ([]string, api.Errno)
}

func deeds() map[api.OrderKind]deed {
	return map[api.OrderKind]deed{
		api.OrderMap:     {do: (*House).lay},
		api.OrderWindow:  {do: (*House).open},
		api.OrderSteps:   {do: (*House).set},
		api.OrderWorkers: {do: (*House).set},
		api.OrderStop:    {do: (*House).set},
		api.OrderDepth:   {do: (*House).set},
		api.OrderTiles:   {do: (*House).cut},
		api.OrderRoots:   {mapped: true, do: (*House).tellRoots},
		api.OrderSeed:    {mapped: true, do: (*House).seed},
		api.OrderCycles:  {mapped: true, do: (*House).cycles},
		api.OrderTrap:    {mapped: true, do: (*House).trap},
		api.OrderDraw:    {mapped: true, windowed: true, long: (*House).tooManyCells, do: (*House).tellDraw},
		api.OrderAreas:   {mapped: true, windowed: true, long: (*House).tooManySquares, do: (*House).tellAreas},
		api.OrderCertify: {mapped: true, windowed: true, long: (*House).tooManyCells, do: (*House).certify},
		api.OrderAsk:     {mapped: true, do: (*House).ask},
		api.OrderWind:    {mapped: true, do: (*House).wind},
		api.OrderAngle:   {do: (*House).angle},
		api.OrderLeaf:    {do: (*House).leaf},
		api.OrderClass:   {do: (*House).class},
	}
}

// row is a line of words and whole numbers.
func row(first string, numbers ...int) string {
	for _, n := range numbers {
		first += " " + strconv.Itoa(n)
	}
	return first
}

// floats are a complex number's and other floats' texts, a blank ahead of each.
func floats(z complex128, more ...float64) string {
	s := " " + bits.Text(real(z)) + " " + bits.Text(imag(z))
	for _, x := range more {
		s += " " + bits.Text(x)
	}
	return s
}

func one(line string) ([]string, api.Errno) { return []string{line}, api.OK }

func (h *House) lay(o api.Order) ([]string, api.Errno) {
	m, _, e := maps.Parse(o.Text)
	if e != api.OK {
		return nil, e
	}
	h.m, h.mapped = m.Map, true
	h.seeds, h.traps = nil, nil
	how := " exact"
	if m.Rounded {
		how = " rounded"
	}
	return one(row("map", ratmap.Degree(h.m)) + how)
}

func (h *House) open(o api.Order) ([]string, api.Errno) {
	w, e := view.Make(o.Z, o.K, o.N, o.M)
	if e != api.OK {
		return nil, e
	}
	h.window, h.windowed = w, true
	return one(row("window", o.N, o.M))
}

func (h *House) set(o api.Order) ([]string, api.Errno) {
	switch o.Kind {
	case api.OrderSteps:
		h.steps = o.N
	case api.OrderWorkers:
		h.workers = o.N
	case api.OrderStop:
		h.stop = o.N
	case api.OrderDepth:
		h.depth = o.N
	}
	word, _ := scene.Word(o.Kind)
	return one(row(word, o.N))
}

func (h *House) cut(o api.Order) ([]string, api.Errno) {
	h.wide, h.high = o.N, o.M
	return one(row("tiles", o.N, o.M))
}

func (h *House) tellRoots(o api.Order) ([]string, api.Errno) {
	l, _, e := roots.All(h.m.P)
	if e != api.OK {
		return nil, e
	}
	told := 0
	var lines []string
	for _, r := range l {
		if r.One {
			told++
			lines = append(lines, "root"+floats(r.B.C, r.B.R))
		} else {
			lines = append(lines, "guess"+floats(r.Z))
		}
	}
	return slices.Concat([]string{row("roots", told, len(l))}, lines), api.OK
}

func (h *House) seed(o api.Order) ([]string, api.Errno) {
	if len(h.seeds) >= api.MaxSeeds {
		return nil, api.ErrLong
	}
	h.seeds = append(h.seeds, o.Z)
	return one(row("seeds", len(h.seeds)))
}

func trapLine(t api.Trap) string { return row("trap", t.N) + floats(t.Ball.C, t.Ball.R, t.Slope) }

func (h *House) cycles(o api.Order) ([]string, api.Errno) {
	found, e := status.Seek(h.m, o.N, h.seeds...)
	if e != api.OK {
		return nil, e
	}
	before := len(h.traps)
	for _, t := range found {
		if len(h.traps) < api.MaxTraps && !slices.Contains(h.traps, t) {
			h.traps = append(h.traps, t)
		}
	}
	lines := []string{row("cycles", len(h.traps)-before)}
	for _, t := range h.traps[before:] {
		lines = append(lines, trapLine(t))
	}
	return lines, api.OK
}

func (h *House) trap(o api.Order) ([]string, api.Errno) {
	t, e := trap.Make(h.m, api.Ball{C: o.Z, R: o.R}, o.N)
	if e != api.OK {
		return nil, e
	}
	if !slices.Contains(h.traps, t) {
		if len(h.traps) >= api.MaxTraps {
			return nil, api.ErrLong
		}
		h.traps = append(h.traps, t)
	}
	return one(trapLine(t))
}

func (h *House) tellDraw(o api.Order) ([]string, api.Errno) {
	t, e := h.Draw()
	if e != api.OK {
		return nil, e
	}
	in, out, unknown, e := tile.Counts(t)
	if e != api.OK {
		return nil, e
	}
	p, e := picture.Of(t)
	if e != api.OK {
		return nil, e
	}
	lines := []string{row("draw", p.Across, p.Down), row("told", in, out, unknown)}
	for _, greys := range picture.Rows(p) {
		lines = append(lines, "row"+runs(greys))
	}
	return lines, api.OK
}

// runs are a row's greys in stretches of one grey.
func runs(greys []uint8) string {
	var s strings.Builder
	for len(greys) > 0 {
		many := slices.IndexFunc(greys, func(g uint8) bool { return g != greys[0] })
		if many < 0 {
			many = len(greys)
		}
		s.WriteString(" " + strconv.Itoa(many) + "*" + strconv.Itoa(int(greys[0])))
		greys = greys[many:]
	}
	return s.String()
}

func (h *House) tellAreas(o api.Order) ([]string, api.Errno) {
	in, out, unknown, e := h.Areas()
	if e != api.OK {
		return nil, e
	}
	line := "areas"
	for _, d := range []api.Dyad{in, out, unknown} {
		s, e := dyad.Show(d)
		if e != api.OK {
			return nil, e
		}
		line += " " + s
	}
	return one(line)
}

func (h *House) certify(o api.Order) ([]string, api.Errno) {
	c, s, e := h.Certificate()
	if e != api.OK {
		return nil, e
	}
	return one(row("certificate", len(c.Claims), len(s)))
}

func (h *House) ask(o api.Order) ([]string, api.Errno) {
	j, e := h.Judge()
	if e != api.OK {
		return nil, e
	}
	w, e := j.Witness(ball.Point(o.Z))
	if e != api.OK {
		return nil, e
	}
	switch w.Told {
	case api.Out:
		return one(row("ask out", w.Step))
	case api.In:
		return one(row("ask in", w.Step, w.Trap))
	}
	return one("ask unknown")
}

func (h *House) wind(o api.Order) ([]string, api.Errno) {
	var chain []api.Ball
	for b := range wind.Square(o.Z, o.R, o.N) {
		chain = append(chain, ratmap.Image(h.m, b))
	}
	k, e := wind.Balls(chain...)
	if e != api.OK {
		return nil, e
	}
	return one(row("wind", k))
}

func (h *House) angle(o api.Order) ([]string, api.Errno) {
	pre, period, e := angle.Kind(o.A, o.N)
	if e != api.OK {
		return nil, e
	}
	knead, e := itin.Knead(o.A, o.N)
	if e != api.OK {
		return nil, e
	}
	s, e := itin.Text(knead)
	if e != api.OK {
		return nil, e
	}
	return one(row("angle", pre, period) + " " + s)
}

func (h *House) leaf(o api.Order) ([]string, api.Errno) {
	l, e := lamin.Make(o.A, o.B)
	if e != api.OK {
		return nil, e
	}
	if e := h.leaves.Add(l); e != api.OK {
		return nil, e
	}
	return one(row("leaves", h.leaves.Len()))
}

func (h *House) class(o api.Order) ([]string, api.Errno) {
	all, e := angle.All(2, o.N)
	if e != api.OK {
		return nil, e
	}
	groups, e := lamin.Groups(o.A, 2, all...)
	if e != api.OK {
		return nil, e
	}
	lines := []string{row("class", len(groups))}
	for _, g := range groups {
		if len(g) < 2 {
			continue
		}
		line := "group"
		for _, a := range g {
			s, _ := ratio.Text(a)
			line += " " + s
		}
		lines = append(lines, line)
	}
	return lines, api.OK
}
