package limb

import (
	"math/big"
	"math/rand"
	"testing"
)

func number(x []uint64) *big.Int { return new(big.Int).SetBytes([]byte(Bytes(x))) }

// some makes numbers with long stretches of like bits, at which guesses of digits go wrong.
func some(r *rand.Rand) []uint64 {
	x := new(big.Int)
	for range r.Intn(8) {
		n := uint(r.Intn(150))
		x.Lsh(x, n)
		if r.Intn(2) == 0 {
			x.Add(x, new(big.Int).Sub(new(big.Int).Lsh(big.NewInt(1), n), big.NewInt(1)))
		} else if r.Intn(2) == 0 {
			x.Add(x, big.NewInt(r.Int63()))
		}
	}
	return Read(string(x.Bytes()))
}

func TestAgainstBig(t *testing.T) {
	r := rand.New(rand.NewSource(2))
	for range 20000 {
		a, b, n := some(r), some(r), r.Intn(300)
		p, q := number(a), number(b)
		same := func(what string, x []uint64, y *big.Int) {
			if number(x).Cmp(y) != 0 || len(x) > 0 && x[len(x)-1] == 0 {
				t.Fatal(what, p, q, n, number(x), y)
			}
		}
		same("add", Add(a, b), new(big.Int).Add(p, q))
		same("mul", Mul(a, b), new(big.Int).Mul(p, q))
		same("shl", Shl(a, n), new(big.Int).Lsh(p, uint(n)))
		same("shr", Shr(a, n), new(big.Int).Rsh(p, uint(n)))
		same("gcd", Gcd(a, b), new(big.Int).GCD(nil, nil, p, q))
		same("root", Root(a), new(big.Int).Sqrt(p))
		same("keep", Keep(a, n), new(big.Int).Sub(p, new(big.Int).Lsh(new(big.Int).Rsh(p, uint(n)), uint(n))))
		if Cmp(a, b) != p.Cmp(q) || Len(a) != p.BitLen() || Low(a) != int(p.TrailingZeroBits()) || uint(Bit(a, n)) != p.Bit(n) {
			t.Fatal("cmp, len, low, bit", p, q, n)
		}
		if Cmp(a, b) >= 0 {
			same("sub", Sub(a, b), new(big.Int).Sub(p, q))
		}
		if len(b) > 0 {
			x, y := Div(a, b)
			u, v := new(big.Int).QuoRem(p, q, new(big.Int))
			same("quo", x, u)
			same("rest", y, v)
		}
	}
}

func TestLongGcd(t *testing.T) {
	r := rand.New(rand.NewSource(3))
	long := func() []uint64 {
		x := make([]uint64, 2048)
		for i := range x {
			x[i] = r.Uint64() | 1
		}
		return x
	}
	a, b := long(), long()
	if number(Gcd(a, b)).Cmp(new(big.Int).GCD(nil, nil, number(a), number(b))) != 0 {
		t.Error("long numbers")
	}
}
