package wind

import (
	"math"
	"math/big"
	"math/rand"
	"slices"
	"testing"

	"filigree/api"
	"filigree/ball"
	"filigree/cplx"
)

var inf, nan = math.Inf(1), math.NaN()

func exactCross(a, b complex128) int {
	f := func(x float64) *big.Rat { return new(big.Rat).SetFloat64(x) }
	x, y := f(real(a)), f(imag(a))
	return x.Mul(x, f(imag(b))).Cmp(y.Mul(y, f(real(b))))
}

func corners() []complex128 {
	l := []complex128{1, 1i, -1, -1i, 1 + 1i, -1 - 2i, 2 + 2i, complex(5e-324, 5e-324), complex(-5e-324, 1e300), complex(math.MaxFloat64, 1), complex(1, math.Copysign(0, -1)), complex(math.Copysign(0, -1), -3), complex(1, 1+0x1p-52), complex(1+0x1p-52, 1+0x1p-51), complex(0.1, 0.3), complex(0.2, 0.6)}
	r := rand.New(rand.NewSource(12))
	for range 40 {
		l = append(l, complex(r.NormFloat64(), r.NormFloat64()), complex(float64(r.Intn(5)-2), float64(r.Intn(5)-2)))
	}
	return l
}

func TestP8_1(t *testing.T) {
	l := corners()
	for _, a := range l {
		for _, b := range l {
			want := exactCross(a, b)
			if s, e := Side(a, b); s != want || e != api.OK {
				t.Error(a, b, s, want)
			}
			p, e := Quarter(a)
			q, f := Quarter(b)
			step, g := Step(a, b)
			if e != api.OK || f != api.OK {
				if g != api.ErrZeroIn || step != 0 {
					t.Error(a, b, step, g)
				}
				continue
			}
			wants := []int{0, 1, 2 * want, -1}
			if d := (q - p + 4) % 4; d == 2 && want == 0 && (g != api.ErrZeroIn || step != 0) || (d != 2 || want != 0) && (step != wants[d] || g != api.OK) {
				t.Error(a, b, step, g)
			}
		}
	}
	for q, z := range []complex128{complex(1, math.Copysign(0, -1)), 1i, -1, -1i} {
		for _, w := range []complex128{z, z + z*1i/4} {
			if p, e := Quarter(w); p != q || e != api.OK {
				t.Error(w, p, e)
			}
		}
	}
	if p, e := Quarter(1 - 1i); p != 3 || e != api.OK {
		t.Error(p, e)
	}
	for _, z := range []complex128{0, complex(math.Copysign(0, -1), 0)} {
		if p, e := Quarter(z); p != 0 || e != api.ErrZeroIn {
			t.Error(p, e)
		}
		if s, e := Side(z, 1); s != 0 || e != api.OK {
			t.Error(s, e)
		}
		if s, e := Step(z, 1); s != 0 || e != api.ErrZeroIn {
			t.Error(s, e)
		}
	}
	for _, z := range []complex128{complex(nan, 0), complex(0, inf), complex(-inf, 1)} {
		_, e1 := Side(z, 1)
		_, e2 := Side(1, z)
		_, e3 := Quarter(z)
		_, e4 := Step(z, 0)
		_, e5 := Step(0, z)
		if e1 != api.ErrFloat || e2 != api.ErrFloat || e3 != api.ErrFloat || e4 != api.ErrFloat || e5 != api.ErrFloat {
			t.Error(z, e1, e2, e3, e4, e5)
		}
	}
}

func each(l []complex128, do func(complex128) complex128) []complex128 {
	var m []complex128
	for _, z := range l {
		m = append(m, do(z))
	}
	return m
}

func TestP8_2_P8_5_P8_6(t *testing.T) {
	for _, c := range []struct {
		l []complex128
		k int
		e api.Errno
	}{{[]complex128{1, 1i, -1, -1i}, 1, 0}, {[]complex128{1, -1i, -1, 1i}, -1, 0}, {[]complex128{1, 1i, -1, -1i, 1, 1i, -1, -1i}, 2, 0}, {[]complex128{1, 2, 3}, 0, 0}, {nil, 0, api.ErrArg}, {[]complex128{1, -1}, 0, api.ErrZeroIn}, {[]complex128{0}, 0, api.ErrZeroIn}, {[]complex128{5i}, 0, 0}, {[]complex128{1, 2i}, 0, 0}, {[]complex128{0, complex(inf, 0)}, 0, api.ErrFloat}, {[]complex128{2, -1 + 1i, -1 - 1i}, 1, 0}, {[]complex128{1, 1i, -1, -1, -1i}, 1, 0}} {
		if k, e := Points(c.l...); k != c.k || e != c.e {
			t.Error(c, k, e)
		}
	}
	r := rand.New(rand.NewSource(13))
	some := func() []complex128 {
		l := []complex128{3}
		for range 1 + r.Intn(8) {
			l = append(l, complex(r.NormFloat64(), r.NormFloat64()))
		}
		return l
	}
	for range 500 {
		l, m := some(), some()
		k, e := Points(l...)
		n, f := Points(m...)
		if e != api.OK || f != api.OK {
			t.Fatal(l, m)
		}
		back := slices.Clone(l)
		slices.Reverse(back)
		if x, _ := Points(back...); x != -k {
			t.Error("turned round", l)
		}
		if x, _ := Points(append(l[2:], l[:2]...)...); len(l) > 2 && x != k {
			t.Error("begun elsewhere", l)
		}
		if x, _ := Points(each(l, cplx.Turn)...); x != k {
			t.Error("Turn", l)
		}
		if x, _ := Points(each(l, cplx.Neg)...); x != k {
			t.Error("Neg", l)
		}
		if x, _ := Points(each(l, cplx.Conj)...); x != -k {
			t.Error("Conj", l)
		}
		if x, _ := Points(append(slices.Clone(l), m...)...); x != k+n {
			t.Error("cut", l, m)
		}
	}
}

func round(r float64, l ...complex128) []api.Ball {
	var m []api.Ball
	for _, z := range l {
		m = append(m, api.Ball{C: z, R: r})
	}
	return m
}

func TestP8_3_P8_7_P8_8(t *testing.T) {
	ring := []complex128{1, 1i, -1, -1i}
	for _, c := range []struct {
		l     []api.Ball
		at, k int
		e     api.Errno
	}{{round(0.75, ring...), 0, 1, 0}, {round(0.5, ring...), 0, 0, api.ErrGap}, {round(1, ring...), 0, 0, api.ErrZeroIn}, {nil, 0, 0, api.ErrArg}, {append(round(0.75, 0, 1), api.Ball{R: -1}), 2, 0, api.ErrArg}, {append(round(0.1, 5, 9), api.Ball{C: 0.5, R: 1}), 2, 0, api.ErrZeroIn}, {append(round(0.75, 1), ball.Whole()), 1, 0, api.ErrZeroIn}, {round(0.75, 1, 1i, 1, 5), 2, 0, api.ErrGap}, {round(0.75, 1, 1i, -1), 2, 0, api.ErrGap}, {round(1, 3), 0, 0, 0}, {round(0.5, 1, 2), 0, 0, 0}} {
		at, e := Check(c.l...)
		k, f := Balls(c.l...)
		if at != c.at || e != c.e || k != c.k || f != c.e {
			t.Error(c, at, e, k, f)
		}
	}
	l := round(0.75, ring...)
	inner := api.Ball{C: 1.2, R: 0.25}
	if k, e := Balls(l[0], inner, l[0], l[1], l[2], l[3]); k != 1 || e != api.OK {
		t.Error("a detour", k, e)
	}
	if k, e := Balls(l[3], l[2], l[1], l[0]); k != -1 || e != api.OK {
		t.Error("turned round", k, e)
	}
	if k, e := Balls(round(0.71, ring...)...); k != 1 || e != api.OK {
		t.Error("lies in it", k, e)
	}
}

func gather(c complex128, half float64, parts int) []api.Ball {
	return slices.Collect(Square(c, half, parts))
}

func TestP8_4_P8_9(t *testing.T) {
	up := math.Nextafter(1, 2)
	l := gather(0, 1, 1)
	want := []api.Ball{{C: -1i, R: up}, {C: 1, R: up}, {C: 1i, R: up}, {C: -1, R: up}}
	if !slices.Equal(l, want) {
		t.Error(l)
	}
	for _, c := range []struct {
		c     complex128
		half  float64
		parts int
	}{{0, 0, 1}, {0, -1, 1}, {0, nan, 1}, {0, inf, 1}, {complex(nan, 0), 1, 1}, {complex(0, inf), 1, 1}, {0, 1, 0}, {0, 1, -5}, {0, 1, api.MaxParts + 1}, {complex(math.MaxFloat64, 0), math.MaxFloat64, 1}, {0, math.MaxFloat64, 2}, {complex(0, math.MaxFloat64), math.MaxFloat64, 1}} {
		if l := gather(c.c, c.half, c.parts); len(l) != 0 {
			t.Error(c, len(l))
		}
	}
	if len(gather(0, 1, api.MaxParts)) != 4*api.MaxParts {
		t.Error("as many as there may be")
	}
	for _, c := range []struct {
		c     complex128
		half  float64
		parts int
		k     int
	}{{0, 1, 2, 1}, {5, 1, 2, 0}, {0.3 - 0.1i, 0.7, 7, 1}, {complex(0, 3), 1, 5, 0}, {0.1, 1, 100, 1}} {
		l := gather(c.c, c.half, c.parts)
		if k, e := Balls(l...); k != c.k || e != api.OK || len(l) != 4*c.parts {
			t.Error(c, k, e, len(l))
		}
		x0, y0, x1, y1 := real(c.c)-c.half, imag(c.c)-c.half, real(c.c)+c.half, imag(c.c)+c.half
		ends := [4][2]complex128{{complex(x0, y0), complex(x1, y0)}, {complex(x1, y0), complex(x1, y1)}, {complex(x1, y1), complex(x0, y1)}, {complex(x0, y1), complex(x0, y0)}}
		mark := func(u, v float64, k int) float64 {
			if k == c.parts {
				return v
			}
			if k == 0 {
				return u
			}
			share := float64(k) / float64(c.parts)
			way := (v - u) * share
			return u + way
		}
		for i, b := range l {
			s, k := ends[i/c.parts], i%c.parts
			p := complex(mark(real(s[0]), real(s[1]), k), mark(imag(s[0]), imag(s[1]), k))
			q := complex(mark(real(s[0]), real(s[1]), k+1), mark(imag(s[0]), imag(s[1]), k+1))
			if real(s[0]) == real(s[1]) {
				p, q = complex(real(s[0]), imag(p)), complex(real(s[0]), imag(q))
			} else {
				p, q = complex(real(p), imag(s[0])), complex(real(q), imag(s[0]))
			}
			if !ball.Has(b, p) || !ball.Has(b, q) {
				t.Error(c, i, b, p, q)
			}
			mid := real(p) + (real(q)-real(p))*0.5
			far := max(math.Abs(real(p)-mid), math.Abs(real(q)-mid))
			at := complex(mid, imag(p))
			if real(s[0]) == real(s[1]) {
				mid = imag(p) + (imag(q)-imag(p))*0.5
				far = max(math.Abs(imag(p)-mid), math.Abs(imag(q)-mid))
				at = complex(real(p), mid)
			}
			if b.C != at || b.R != math.Nextafter(far, inf) {
				t.Error(c, i, b, at, far)
			}
		}
	}
	n := 0
	seq := Square(0, 1, 3)
	for range seq {
		if n++; n == 5 {
			break
		}
	}
	if n != 5 || len(slices.Collect(seq)) != 12 {
		t.Error("left early, gone over again")
	}
}
