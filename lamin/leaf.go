package lamin

import (
	"cmp"
	"slices"

	"filigree/angle"
	"filigree/api"
	"filigree/itin"
)

// place is an angle in words; both are below 2^31, so that products fit.
type place struct {
	num, den uint64
}

func word(n api.Nat) uint64 {
	x := uint64(0)
	for i := range len(n) {
		x = x<<8 | uint64(n[i])
	}
	return x
}

// at is the place of an angle.
func at(a api.Ratio) place { return place{word(a.Num), word(a.Den)} }

func (p place) compare(q place) int { return cmp.Compare(p.num*q.den, q.num*p.den) }

// chord is a leaf with its places; turned tells that its turned one is known to be there, or to be a point.
type chord struct {
	leaf   api.Leaf
	a, b   place
	turned bool
}

func chordOf(l api.Leaf) chord { return chord{leaf: l, a: at(l.A), b: at(l.B)} }

// order is by A, then by B.
func (c chord) order(d chord) int {
	if first := c.a.compare(d.a); first != 0 {
		return first
	}
	return c.b.compare(d.b)
}

// has tells whether p lies between the ends.
func (c chord) has(p place) bool { return c.a.compare(p) < 0 && p.compare(c.b) < 0 }

// ends tells whether p is one of the ends.
func (c chord) ends(p place) bool { return p == c.a || p == c.b }

// crosses tells whether one end of d lies between the ends of c and the other one beyond.
func (c chord) crosses(d chord) bool {
	return c.has(d.a) && c.b.compare(d.b) < 0 || c.has(d.b) && d.a.compare(c.a) < 0
}

func checkAngles(l ...api.Ratio) api.Errno {
	for _, a := range l {
		if e := angle.Check(a); e != api.OK {
			return e
		}
	}
	return api.OK
}

func Check(l api.Leaf) api.Errno {
	if e := checkAngles(l.A, l.B); e != api.OK {
		return e
	}
	if l.A == l.B {
		return api.ErrPoint
	}
	if at(l.B).compare(at(l.A)) < 0 {
		return api.ErrArg
	}
	return api.OK
}

func Make(a, b api.Ratio) (api.Leaf, api.Errno) {
	if e := checkAngles(a, b); e != api.OK {
		return api.Leaf{}, e
	}
	l, is := between(a, b)
	if !is {
		return api.Leaf{}, api.ErrPoint
	}
	return l, api.OK
}

// between is the leaf between two angles; false, if they are one.
func between(a, b api.Ratio) (api.Leaf, bool) {
	if a == b {
		return api.Leaf{}, false
	}
	if at(b).compare(at(a)) < 0 {
		a, b = b, a
	}
	return api.Leaf{A: a, B: b}, true
}

func Cross(l, m api.Leaf) (bool, api.Errno) {
	if e := Check(l); e != api.OK {
		return false, e
	}
	if e := Check(m); e != api.OK {
		return false, e
	}
	return chordOf(l).crosses(chordOf(m)), api.OK
}

func Turn(l api.Leaf, d int) (m api.Leaf, is bool, e api.Errno) {
	if e := Check(l); e != api.OK {
		return api.Leaf{}, false, e
	}
	a, e := angle.Turn(l.A, d)
	b, f := angle.Turn(l.B, d)
	if e != api.OK {
		return api.Leaf{}, false, e
	}
	if f != api.OK {
		return api.Leaf{}, false, f
	}
	m, is = between(a, b)
	return m, is, api.OK
}

// sorted are the angles by size, each once.
func sorted(l []api.Ratio) []api.Ratio {
	l = slices.Clone(l)
	slices.SortFunc(l, func(a, b api.Ratio) int { return at(a).compare(at(b)) })
	return slices.Compact(l)
}

func Hull(l ...api.Ratio) ([]api.Leaf, api.Errno) {
	if len(l) > api.MaxLamin {
		return nil, api.ErrLong
	}
	if e := checkAngles(l...); e != api.OK {
		return nil, e
	}
	return hull(sorted(l)), api.OK
}

// hull is that of angles by size, each once.
func hull(l []api.Ratio) []api.Leaf {
	var leaves []api.Leaf
	for i := range len(l) - 1 {
		leaves = append(leaves, api.Leaf{A: l[i], B: l[i+1]})
		if i == 0 && len(l) > 2 {
			leaves = append(leaves, api.Leaf{A: l[0], B: l[len(l)-1]})
		}
	}
	return leaves
}

// told is an angle with its itinerary's text.
type told struct {
	angle api.Ratio
	text  string
}

func Groups(by api.Ratio, d int, l ...api.Ratio) ([][]api.Ratio, api.Errno) {
	if len(l) > api.MaxLamin {
		return nil, api.ErrLong
	}
	all := make([]told, len(l))
	for i, a := range l {
		row, e := itin.Of(by, a, d)
		if e != api.OK {
			return nil, e
		}
		text, _ := itin.Text(row)
		all[i] = told{a, text}
	}
	slices.SortFunc(all, func(t, u told) int { return at(t.angle).compare(at(u.angle)) })
	var groups [][]api.Ratio
	met := map[string]int{}
	for _, t := range slices.Compact(all) {
		group, ok := met[t.text]
		if !ok {
			group = len(groups)
			met[t.text] = group
			groups = append(groups, nil)
		}
		groups[group] = append(groups[group], t.angle)
	}
	return groups, api.OK
}
