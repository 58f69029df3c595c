package wire

import (
	"slices"

	"filigree/api"
	"filigree/bits"
	"filigree/cplx"
	"filigree/poly"
)

// LikeBall tells whether two balls are like by bits.
func LikeBall(a, b api.Ball) bool { return cplx.Same(a.C, b.C) && bits.Like(a.R, b.R) }

// LikeTrap tells whether two traps are like by bits.
func LikeTrap(a, b api.Trap) bool {
	return LikeBall(a.Ball, b.Ball) && a.N == b.N && bits.Like(a.Slope, b.Slope)
}

// LikeJob tells whether two maps and their traps are like by bits.
func LikeJob(a, b api.Map, s, t []api.Trap) bool {
	return poly.Same(a.P, b.P) && poly.Same(a.Q, b.Q) && slices.EqualFunc(s, t, LikeTrap)
}

// OwnMap is a copy of a map that shares no memory.
func OwnMap(m api.Map) api.Map { return api.Map{P: slices.Clone(m.P), Q: slices.Clone(m.Q)} }
