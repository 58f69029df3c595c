package cert

import (
	"slices"

	"filigree/api"
	"filigree/bits"
	"filigree/cplx"
	"filigree/wire"
)

const (
	head     = "FLG\x00\x01"
	maxByte  = 1<<8 - 1
	maxTwo   = 1<<16 - 1
	claimLen = 28 // bytes
)

func likeClaim(a, b api.Claim) bool {
	return wire.LikeBall(a.Ball, b.Ball) && a.Witness == b.Witness
}

func sameBase(a, b api.Cert) bool { return wire.LikeJob(a.Map, b.Map, a.Traps, b.Traps) }

func Same(a, b api.Cert) bool {
	return sameBase(a, b) && slices.EqualFunc(a.Claims, b.Claims, likeClaim)
}

// fits tells whether a ball's floats may be written.
func fits(b api.Ball) bool { return cplx.Kind(b.C) == api.CplxFinite && b.R == b.R }

func polyFits(p api.Poly) bool {
	infinite := func(z complex128) bool { return cplx.Kind(z) != api.CplxFinite }
	return len(p) <= api.MaxDegree+1 && !slices.ContainsFunc(p, infinite)
}

// within tells whether n is from 0 to most.
func within(n, most int) bool { return n >= 0 && n <= most }

func writable(c api.Cert) bool {
	if !polyFits(c.Map.P) || !polyFits(c.Map.Q) || len(c.Traps) > api.MaxTraps || len(c.Claims) > api.MaxClaims {
		return false
	}
	for _, t := range c.Traps {
		if !fits(t.Ball) || !within(t.N, maxByte) || !bits.Finite(t.Slope) {
			return false
		}
	}
	for _, k := range c.Claims {
		if !fits(k.Ball) || !within(k.Witness.Step, maxTwo) || !within(k.Witness.Trap, maxByte) {
			return false
		}
	}
	return true
}

func Write(c api.Cert) (string, api.Errno) {
	if !writable(c) {
		return "", api.ErrArg
	}
	var w wire.Writer
	w.Text(head)
	w.Poly(c.Map.P)
	w.Poly(c.Map.Q)
	w.Traps(c.Traps)
	w.Number(uint64(len(c.Claims)), 4)
	for _, k := range c.Claims {
		w.Ball(k.Ball)
		w.Witness(k.Witness)
	}
	return string(w.Bytes), api.OK
}

func Read(s string) (c api.Cert, e api.Errno) {
	defer func() {
		if r := recover(); r != nil {
			if _, ok := r.(wire.Broken); !ok {
				panic(r)
			}
			c, e = api.Cert{}, api.ErrBytes
		}
	}()
	r := &wire.Reader{Rest: s}
	r.Sure(r.Text(len(head)) == head)
	c.Map.P = r.Poly()
	c.Map.Q = r.Poly()
	c.Traps = r.Traps()
	for range r.Many(4, api.MaxClaims, claimLen) {
		b := r.Ball()
		c.Claims = append(c.Claims, api.Claim{Ball: b, Witness: r.Witness()})
	}
	r.Sure(r.Rest == "")
	return c, api.OK
}

func Verify(s string) (c api.Cert, at int, e api.Errno) {
	c, e = Read(s)
	if e != api.OK {
		return api.Cert{}, 0, e
	}
	if at, e = Check(c); e != api.OK {
		return api.Cert{}, at, e
	}
	return c, 0, api.OK
}
