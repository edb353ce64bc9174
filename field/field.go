// Package field: numbers by a prime: see doc/01-field.md.
package field

import "sharecroft/api"

// Norm: P3: the rest of a by P.
func Norm(a uint64) uint64 {
	return a % api.P
}

// Add: P3: the rest of the sum. The rests are taken first, for the sum of two
// numbers of 64 bits may wrap round.
func Add(a, b uint64) uint64 {
	return Norm(Norm(a) + Norm(b))
}

// Sub: P3: the rest of the difference. P is added first, so that what is taken
// away is never the greater one.
func Sub(a, b uint64) uint64 {
	return Norm(Norm(a) + api.P - Norm(b))
}

// Mul: P3: the rest of the product. Two rests have at most 31 bits each, so
// their product fits in 64.
func Mul(a, b uint64) uint64 {
	return Norm(Norm(a) * Norm(b))
}

// Pow: P3: the rest of a times itself, n times. n counts how often, so it is
// taken whole and not by its rest: else 0 to the power P would be 1.
func Pow(a, n uint64) uint64 {
	power := uint64(1)
	square := Norm(a)
	for ; n > 0; n >>= 1 {
		if n&1 == 1 {
			power = Mul(power, square)
		}
		square = Mul(square, square)
	}
	return power
}

// Inv: P3: the number by which a has the product 1. P is a prime, so the power
// P - 1 of a is 1, and the power below it is what is asked for.
func Inv(a uint64) (uint64, api.Errno) {
	if Norm(a) == 0 {
		return 0, api.ErrArg
	}
	return Pow(a, api.P-2), api.OK
}
