// Package wire puts numbers down as bytes, the highest byte first, and takes them up again: what cert, store and picture write stands on it.
package wire

import (
	"math"

	"filigree/api"
	"filigree/bits"
)

// Broken is what a Reader gives up with.
type Broken string

func (b Broken) Error() string { return string(b) }

// Writer gathers bytes.
type Writer struct {
	Bytes []byte
}

// Number puts n down in so many bytes.
func (w *Writer) Number(n uint64, size int) {
	for i := size - 1; i >= 0; i-- {
		w.Bytes = append(w.Bytes, byte(n>>(8*i)))
	}
}

// Text puts bytes down as they are.
func (w *Writer) Text(s string) { w.Bytes = append(w.Bytes, s...) }

// Float puts a float down by its bits.
func (w *Writer) Float(x float64) { w.Number(math.Float64bits(x), 8) }

// Complex puts down the real part and the imaginary one.
func (w *Writer) Complex(z complex128) {
	w.Float(real(z))
	w.Float(imag(z))
}

// Poly puts down how many coefficients there are, and these.
func (w *Writer) Poly(p api.Poly) {
	w.Number(uint64(len(p)), 1)
	for _, z := range p {
		w.Complex(z)
	}
}

// Ball puts down the centre and the radius.
func (w *Writer) Ball(b api.Ball) {
	w.Complex(b.C)
	w.Float(b.R)
}

// Traps puts down how many traps there are, and these.
func (w *Writer) Traps(l []api.Trap) {
	w.Number(uint64(len(l)), 1)
	for _, t := range l {
		w.Ball(t.Ball)
		w.Number(uint64(t.N), 1)
		w.Float(t.Slope)
	}
}

// Witness puts down Told, Step and Trap.
func (w *Writer) Witness(x api.Witness) {
	w.Number(uint64(x.Told), 1)
	w.Number(uint64(x.Step), 2)
	w.Number(uint64(x.Trap), 1)
}

// Reader takes up what is left of its bytes; it gives up by a panic with a Broken.
type Reader struct {
	Rest string
}

// Sure gives up, unless ok.
func (r *Reader) Sure(ok bool) {
	if !ok {
		panic(Broken("bytes that may not be"))
	}
}

// Text takes up so many bytes.
func (r *Reader) Text(size int) string {
	r.Sure(size <= len(r.Rest))
	s := r.Rest[:size]
	r.Rest = r.Rest[size:]
	return s
}

// Number takes up a number of so many bytes.
func (r *Reader) Number(size int) uint64 {
	n := uint64(0)
	for _, b := range []byte(r.Text(size)) {
		n <<= 8
		n |= uint64(b)
	}
	return n
}

// Int takes up a number of at most four bytes.
func (r *Reader) Int(size int) int { return int(r.Number(size)) }

// Many takes up how many things follow, most at most, each of at least so many bytes.
func (r *Reader) Many(size, most, least int) int {
	n := r.Int(size)
	r.Sure(n <= most && n*least <= len(r.Rest))
	return n
}

// Float takes up a float that is no NaN.
func (r *Reader) Float() float64 {
	x := math.Float64frombits(r.Number(8))
	r.Sure(x == x)
	return x
}

// Finite takes up a finite float.
func (r *Reader) Finite() float64 {
	x := r.Float()
	r.Sure(bits.Finite(x))
	return x
}

// Complex takes up two finite floats.
func (r *Reader) Complex() complex128 {
	re := r.Finite()
	return complex(re, r.Finite())
}

// Poly takes up a polynomial's coefficients.
func (r *Reader) Poly() api.Poly {
	var p api.Poly
	for range r.Many(1, api.MaxDegree+1, 16) {
		p = append(p, r.Complex())
	}
	return p
}

// Ball takes up a ball, whose radius may be an infinity.
func (r *Reader) Ball() api.Ball {
	c := r.Complex()
	return api.Ball{C: c, R: r.Float()}
}

// Traps takes up a list of traps.
func (r *Reader) Traps() []api.Trap {
	var l []api.Trap
	for range r.Many(1, api.MaxTraps, 33) {
		b := r.Ball()
		n := r.Int(1)
		l = append(l, api.Trap{Ball: b, N: n, Slope: r.Finite()})
	}
	return l
}

// Witness takes up Told, Step and Trap.
func (r *Reader) Witness() api.Witness {
	told := api.Told(r.Number(1))
	step := r.Int(2)
	return api.Witness{Told: told, Step: step, Trap: r.Int(1)}
}
