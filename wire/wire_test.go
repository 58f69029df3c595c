package wire

import (
	"math"
	"testing"

	"filigree/api"
)

// broken tells whether do gives up.
func broken(do func()) (is bool) {
	defer func() {
		if r := recover(); r != nil {
			_, is = r.(Broken)
		}
	}()
	do()
	return false
}

func TestThereAndBack(t *testing.T) {
	p := api.Poly{1, 2i, complex(math.Copysign(0, -1), 5e-324)}
	traps := []api.Trap{{Ball: api.Ball{C: 1 + 2i, R: math.Inf(1)}, N: 255, Slope: 0.5}}
	told := api.Witness{Told: api.In, Step: 65535, Trap: 255}
	w := &Writer{}
	w.Number(0x010203, 4)
	w.Text("ab")
	w.Poly(p)
	w.Traps(traps)
	w.Witness(told)
	s := string(w.Bytes)
	if s[:6] != "\x00\x01\x02\x03ab" {
		t.Errorf("%q", s[:6])
	}
	r := &Reader{Rest: s}
	if n, text := r.Int(4), r.Text(2); n != 0x010203 || text != "ab" {
		t.Error(n, text)
	}
	q, l := r.Poly(), r.Traps()
	if !LikeJob(api.Map{P: p}, api.Map{P: q}, traps, l) || r.Witness() != told || r.Rest != "" {
		t.Error(q, l)
	}
	for i := range len(s) {
		r := &Reader{Rest: s[:i]}
		if !broken(func() { r.Int(4); r.Text(2); r.Poly(); r.Traps(); r.Witness() }) {
			t.Error("too short", i)
		}
	}
	for _, x := range []float64{math.NaN(), math.Inf(1)} {
		w := &Writer{}
		w.Float(x)
		if !broken(func() { (&Reader{Rest: string(w.Bytes)}).Finite() }) || broken(func() { (&Reader{Rest: string(w.Bytes)}).Float() }) != (x != x) {
			t.Error(x)
		}
	}
	if !broken(func() { (&Reader{Rest: "\x05abcdef"}).Many(1, 4, 1) }) || !broken(func() { (&Reader{Rest: "\x05abcd"}).Many(1, 9, 1) }) || broken(func() { (&Reader{Rest: "\x04abcd"}).Many(1, 4, 1) }) {
		t.Error("Many")
	}
	if Broken("x").Error() != "x" {
		t.Error("Error")
	}
}

func TestLike(t *testing.T) {
	minus := math.Copysign(0, -1)
	b := api.Ball{R: math.NaN()}
	if !LikeBall(b, b) || LikeBall(api.Ball{}, api.Ball{R: minus}) || LikeTrap(api.Trap{}, api.Trap{Slope: minus}) || LikeTrap(api.Trap{}, api.Trap{N: 1}) || LikeJob(api.Map{P: api.Poly{0}}, api.Map{P: api.Poly{complex(minus, 0)}}, nil, nil) {
		t.Error("like by bits")
	}
	m := api.Map{P: api.Poly{1}, Q: api.Poly{2}}
	n := OwnMap(m)
	if n.P[0], n.Q[0] = 8, 9; m.P[0] != 1 || m.Q[0] != 2 {
		t.Error("shares its memory")
	}
}
