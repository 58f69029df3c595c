package angle

import (
	"filigree/api"
	"filigree/nat"
)

// moebius is 0, if the square of a prime divides n, else 1 or -1, as n has an even or odd number of primes.
func moebius(n int) int {
	sign := 1
	for p := range primes(uint64(n)) {
		if uint64(n)%(p*p) == 0 {
			return 0
		}
		sign = -sign
	}
	return sign
}

func Count(d, n int) (api.Nat, api.Errno) {
	if !turns(d) || n < 1 || n > api.MaxDigits {
		return "", api.ErrArg
	}
	// those that come back after k turns are d to the power k, less 1; those of lesser periods are taken out
	var more, less []api.Nat
	for k := 1; k <= n; k++ {
		if n%k != 0 {
			continue
		}
		all, _ := nat.Pow(nat.Of(uint64(d)), k)
		all, _ = nat.Sub(all, nat.Of(1))
		switch moebius(n / k) {
		case 1:
			more = append(more, all)
		case -1:
			less = append(less, all)
		}
	}
	sum, _ := nat.Sum(more...)
	off, _ := nat.Sum(less...)
	return nat.Sub(sum, off)
}

func All(d, n int) ([]api.Ratio, api.Errno) {
	count, e := Count(d, n)
	if e != api.OK {
		return nil, e
	}
	if many, ok := nat.Small(count); !ok || many > api.MaxAngles {
		return nil, api.ErrMany
	}
	// so few angles come back only where d to the power n is small
	den := uint64(1)
	for range n {
		den *= uint64(d)
	}
	den--
	var l []api.Ratio
	for k := range den {
		a, _ := made(k, den)
		if _, period, _ := Kind(a, d); period == n {
			l = append(l, a)
		}
	}
	return l, api.OK
}
