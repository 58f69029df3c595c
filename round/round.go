// Package round makes floats of exact numbers: the three ways to round that dyad and ratio share.
package round

import (
	"math"

	"filigree/bits"
)

// Rest is what an exact number's magnitude has more than the float below it.
type Rest uint8

// The rests.
const (
	None Rest = iota
	Less      // less than half of the last bit's weight
	Half
	More
)

// Way decides whether a magnitude with a rest is rounded away from 0.
type Way func(neg, odd bool, rest Rest) bool

// Near goes to the nearest float, of two as near to the even one.
func Near(neg, odd bool, rest Rest) bool { return rest == More || rest == Half && odd }

// Above goes to the float above.
func Above(neg, odd bool, rest Rest) bool { return !neg }

// Below goes to the float below.
func Below(neg, odd bool, rest Rest) bool { return neg }

// Least is the exponent of the last bit of a float whose magnitude is from 2 to the power top on, and below the double.
func Least(top int) int { return max(top-52, -1074) }

// Float rounds the magnitude m times 2 to the power least and a rest; m is below 2^53.
func Float(neg bool, m uint64, least int, rest Rest, away Way) float64 {
	if rest != None && away(neg, m&1 == 1, rest) {
		m++
	}
	if x, ok := bits.Make(neg, m, least); ok {
		return x
	}
	return math.Copysign(math.Inf(1), sign(neg))
}

// Huge rounds a magnitude of 2^1024 or more.
func Huge(neg bool, away Way) float64 { return Float(neg, 1<<53-1, 971, More, away) }

func sign(neg bool) float64 {
	if neg {
		return -1
	}
	return 1
}
