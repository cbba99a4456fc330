package market

import (
	"cmp"

	"corrody/api"
)

// The terms of a price or a spending are at most 2 to the power of 20, and at most three of them are summed: no product here passes an int's 63 bits.

// whole returns n as a fraction.
func whole(n int) api.Frac {
	return api.Frac{Num: n, Den: 1}
}

// reduced returns num / den in lowest terms. The denominator is positive.
func reduced(num, den int) api.Frac {
	divisor, rest := den, max(num, -num)
	for rest != 0 {
		divisor, rest = rest, divisor%rest
	}
	return api.Frac{Num: num / divisor, Den: den / divisor}
}

func plus(a, b api.Frac) api.Frac {
	return reduced(a.Num*b.Den+b.Num*a.Den, a.Den*b.Den)
}

func minus(a, b api.Frac) api.Frac {
	return plus(a, api.Frac{Num: -b.Num, Den: b.Den})
}

func times(a, b api.Frac) api.Frac {
	return reduced(a.Num*b.Num, a.Den*b.Den)
}

// over returns a / b. The divisor is positive.
func over(a, b api.Frac) api.Frac {
	return reduced(a.Num*b.Den, a.Den*b.Num)
}

func compare(a, b api.Frac) int {
	return cmp.Compare(a.Num*b.Den, b.Num*a.Den)
}
