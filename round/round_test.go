package round

import (
	"math"
	"testing"
)

func TestFloat(t *testing.T) {
	for _, c := range []struct {
		neg   bool
		m     uint64
		least int
		rest  Rest
		want  [3]float64 // near, above, below
	}{
		{false, 3, 0, None, [3]float64{3, 3, 3}},
		{false, 3, 0, Less, [3]float64{3, 4, 3}},
		{false, 3, 0, Half, [3]float64{4, 4, 3}},
		{false, 2, 0, Half, [3]float64{2, 3, 2}},
		{true, 2, 0, More, [3]float64{-3, -2, -3}},
		{false, 1<<53 - 1, 971, More, [3]float64{math.Inf(1), math.Inf(1), math.MaxFloat64}},
		{true, 1<<53 - 1, 971, Less, [3]float64{-math.MaxFloat64, -math.MaxFloat64, math.Inf(-1)}},
		{false, 0, -1074, Half, [3]float64{0, 5e-324, 0}},
	} {
		for i, way := range []Way{Near, Above, Below} {
			if x := Float(c.neg, c.m, c.least, c.rest, way); x != c.want[i] {
				t.Error(c, i, x)
			}
		}
	}
	if x := Float(true, 0, -1074, Less, Above); x != 0 || !math.Signbit(x) {
		t.Error("the sign of a nought", x)
	}
	if Huge(false, Below) != math.MaxFloat64 || Huge(true, Near) != math.Inf(-1) || Least(0) != -52 || Least(-1074) != -1074 {
		t.Error("Huge, Least")
	}
}
