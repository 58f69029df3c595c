// Package limb has natural numbers of any length in words of 64 bits, the lowest first and the highest one not 0: what nat, dyad, ratio and ball work with where a number on the way may be longer than a Nat.
package limb

import "math/bits"

const word = 64

// Cut leaves out the words at the upper end that are 0.
func Cut(x []uint64) []uint64 {
	for len(x) > 0 && x[len(x)-1] == 0 {
		x = x[:len(x)-1]
	}
	return x
}

// Of is the number n.
func Of(n uint64) []uint64 { return Cut([]uint64{n}) }

// Read is the number whose digits to the base 256 are those bytes, the highest first.
func Read(s string) []uint64 {
	x := make([]uint64, (len(s)+7)/8)
	for i := range len(s) {
		k := len(s) - 1 - i
		x[k/8] |= uint64(s[i]) << (k % 8 * 8)
	}
	return Cut(x)
}

// Bytes are the digits to the base 256, the highest first, none of them 0 ahead.
func Bytes(x []uint64) string {
	b := make([]byte, (Len(x)+7)/8)
	for i := range b {
		k := len(b) - 1 - i
		b[i] = byte(x[k/8] >> (k % 8 * 8))
	}
	return string(b)
}

// Len is how many bits x has.
func Len(x []uint64) int {
	if len(x) == 0 {
		return 0
	}
	return word*(len(x)-1) + bits.Len64(x[len(x)-1])
}

// Low is how many bits stand below the first one that is 1.
func Low(x []uint64) int {
	for i, w := range x {
		if w != 0 {
			return word*i + bits.TrailingZeros64(w)
		}
	}
	return 0
}

// Bit is the bit i, i from 0 on.
func Bit(x []uint64, i int) uint64 {
	if i/word >= len(x) {
		return 0
	}
	return x[i/word] >> (i % word) & 1
}

// Cmp is -1, 0 or 1, as a is below b, the same, or above.
func Cmp(a, b []uint64) int {
	if len(a) != len(b) {
		if len(a) < len(b) {
			return -1
		}
		return 1
	}
	for i := len(a) - 1; i >= 0; i-- {
		switch {
		case a[i] < b[i]:
			return -1
		case a[i] > b[i]:
			return 1
		}
	}
	return 0
}

// Add is the sum.
func Add(a, b []uint64) []uint64 {
	if len(a) < len(b) {
		a, b = b, a
	}
	z := make([]uint64, len(a)+1)
	carry := uint64(0)
	for i, w := range a {
		v := uint64(0)
		if i < len(b) {
			v = b[i]
		}
		z[i], carry = bits.Add64(w, v, carry)
	}
	z[len(a)] = carry
	return Cut(z)
}

// Sub is a less b; b is not above a.
func Sub(a, b []uint64) []uint64 {
	z := make([]uint64, len(a))
	borrow := uint64(0)
	for i, w := range a {
		v := uint64(0)
		if i < len(b) {
			v = b[i]
		}
		z[i], borrow = bits.Sub64(w, v, borrow)
	}
	return Cut(z)
}

// Mul is the product.
func Mul(a, b []uint64) []uint64 {
	z := make([]uint64, len(a)+len(b))
	for i, w := range a {
		if w == 0 {
			continue
		}
		carry := uint64(0)
		row := z[i : i+len(b) : i+len(b)]
		for k, v := range b {
			high, low := bits.Mul64(w, v)
			var c uint64
			low, c = bits.Add64(low, row[k], 0)
			high += c
			row[k], c = bits.Add64(low, carry, 0)
			carry = high + c
		}
		z[i+len(b)] = carry
	}
	return Cut(z)
}

// Shl is x times 2 to the power n, n from 0 on.
func Shl(x []uint64, n int) []uint64 {
	if len(x) == 0 {
		return nil
	}
	words, by := n/word, n%word
	z := make([]uint64, len(x)+words+1)
	for i, w := range x {
		z[i+words] |= w << by
		z[i+words+1] |= w >> (word - by)
	}
	return Cut(z)
}

// Shr is x divided by 2 to the power n, n from 0 on, without what is left.
func Shr(x []uint64, n int) []uint64 {
	words, by := n/word, n%word
	if words >= len(x) {
		return nil
	}
	z := make([]uint64, len(x)-words)
	for i := range z {
		z[i] = x[i+words] >> by
		if i+words+1 < len(x) {
			z[i] |= x[i+words+1] << (word - by)
		}
	}
	return Cut(z)
}

// Keep is what is left of x divided by 2 to the power n.
func Keep(x []uint64, n int) []uint64 {
	words, by := n/word, n%word
	if words >= len(x) {
		return Cut(x)
	}
	z := make([]uint64, words+1)
	copy(z, x)
	z[words] &= 1<<by - 1
	return Cut(z)
}

// Put is x times by, and more.
func Put(x []uint64, by, more uint64) []uint64 {
	z := make([]uint64, len(x)+1)
	for i, w := range x {
		high, low := bits.Mul64(w, by)
		var c uint64
		z[i], c = bits.Add64(low, more, 0)
		more = high + c
	}
	z[len(x)] = more
	return Cut(z)
}

// Take is the quotient of x and by, which is not 0, and what is left.
func Take(x []uint64, by uint64) ([]uint64, uint64) {
	z := make([]uint64, len(x))
	rest := uint64(0)
	for i := len(x) - 1; i >= 0; i-- {
		z[i], rest = bits.Div64(rest, x[i], by)
	}
	return Cut(z), rest
}
