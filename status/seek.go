package status

import (
	"filigree/api"
	"filigree/ball"
	"filigree/cycles"
	"filigree/flow"
	"filigree/orbit"
	"filigree/poly"
	"filigree/ratmap"
	"filigree/roots"
	"filigree/trap"
)

// critical is the critical polynomial; false, if it is not there.
func critical(m api.Map) (api.Poly, bool) {
	rise, e1 := poly.Derive(m.P)
	if len(m.Q) == 1 && m.Q[0] == 1 {
		return rise, e1 == api.OK
	}
	fall, e2 := poly.Derive(m.Q)
	left, e3 := poly.Mul(rise, m.Q)
	right, e4 := poly.Mul(m.P, fall)
	right, e5 := poly.Scale(right, -1)
	sum, e6 := poly.Add(left, right)
	for _, e := range []api.Errno{e1, e2, e3, e4, e5, e6} {
		if e != api.OK {
			return nil, false
		}
	}
	return sum, true
}

func Critical(m api.Map) ([]complex128, api.Errno) {
	if ratmap.Check(m) != api.OK {
		return nil, api.ErrArg
	}
	p, ok := critical(m)
	if !ok {
		return nil, api.ErrTold
	}
	if len(p) < 2 {
		return nil, api.OK
	}
	return roots.Guess(p, api.RootSteps)
}

func finite(l ...complex128) bool {
	for _, z := range l {
		if !ratmap.IsPoint(api.Point{Z: z}) {
			return false
		}
	}
	return true
}

// led are the points to which orbits by floats lead, of those that they lead to a number.
func led(m api.Map, l ...complex128) []complex128 {
	var to []complex128
	for _, z := range l {
		p, ok, e := orbit.Last(m, api.Point{Z: z}, api.SeekSteps)
		if ok && e == api.OK && !p.Inf {
			to = append(to, p.Z)
		}
	}
	return to
}

func Seek(m api.Map, most int, seeds ...complex128) ([]api.Trap, api.Errno) {
	if flow.Check(m, ball.Point(0)) != api.OK || most < 1 || most > api.MaxPeriod || !finite(seeds...) {
		return nil, api.ErrArg
	}
	if len(seeds) > api.MaxSeeds {
		return nil, api.ErrLong
	}
	points, _ := Critical(m)
	starts := led(m, append(points, seeds...)...)
	var traps []api.Trap
	for n := 1; n <= most; n++ {
		found, _ := cycles.All(m, n, starts...)
		for _, c := range found {
			if c.Nature != api.Attracting || len(traps) == api.MaxTraps {
				continue
			}
			if t, e := trap.About(m, c); e == api.OK {
				traps = append(traps, t)
			}
		}
	}
	return traps, api.OK
}
