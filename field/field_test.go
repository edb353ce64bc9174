package field_test

import (
	"math/big"
	"testing"

	"sharecroft/api"
	"sharecroft/field"
)

const (
	p   = api.P
	top = 1<<64 - 1
)

// edges are the numbers around which rests, sums and products go wrong first.
func edges() []uint64 {
	return []uint64{
		0, 1, 2, 3, 5, 7, 1000, 65535, 65536,
		1<<30 - 1, 1 << 30, 1<<30 + 1,
		p - 2, p - 1, p, p + 1, p + 2,
		2*p - 1, 2 * p, 2*p + 1,
		1<<32 - 1, 1 << 32, 1<<32 + 1,
		p*p - 1, p * p, p*p + 1,
		1<<62 - 1, 1 << 62, 1<<63 - 1, 1 << 63, 1<<63 + 1,
		top - 4, top - 3, top - 2, top - 1, top,
		123456789, 987654321012345678,
	}
}

func whole(a uint64) *big.Int { return new(big.Int).SetUint64(a) }

// rest is told by whole numbers without a bound, so that it shares no fault
// with 64 bits.
func rest(a *big.Int) uint64 {
	return new(big.Int).Mod(a, whole(p)).Uint64()
}

func want(t *testing.T, name string, a, b, got, right uint64) {
	t.Helper()
	if got != right {
		t.Errorf("%s(%d, %d): %d, not %d", name, a, b, got, right)
	}
}

func TestP3Norm(t *testing.T) {
	for _, a := range edges() {
		want(t, "Norm", a, 0, field.Norm(a), rest(whole(a)))
	}
}

func TestP3AddSubMul(t *testing.T) {
	for _, a := range edges() {
		for _, b := range edges() {
			x, y := whole(a), whole(b)
			want(t, "Add", a, b, field.Add(a, b), rest(new(big.Int).Add(x, y)))
			want(t, "Sub", a, b, field.Sub(a, b), rest(new(big.Int).Sub(x, y)))
			want(t, "Mul", a, b, field.Mul(a, b), rest(new(big.Int).Mul(x, y)))
		}
	}
}

func TestP3Pow(t *testing.T) {
	for _, a := range edges() {
		for _, n := range edges() {
			right := new(big.Int).Exp(whole(a), whole(n), whole(p)).Uint64()
			want(t, "Pow", a, n, field.Pow(a, n), right)
		}
	}
}

func TestP3PowCountsEachTime(t *testing.T) {
	for _, a := range edges() {
		product := uint64(1)
		for n := uint64(0); n < 40; n++ {
			want(t, "Pow", a, n, field.Pow(a, n), product)
			product = field.Mul(product, a)
		}
	}
}

func TestP3PowOfNoTimesIsOne(t *testing.T) {
	for _, a := range edges() {
		want(t, "Pow", a, 0, field.Pow(a, 0), 1)
	}
}

func TestP3PowTakesTheCountWhole(t *testing.T) {
	want(t, "Pow", 0, p, field.Pow(0, p), 0)
	want(t, "Pow", p, p, field.Pow(p, p), 0)
	want(t, "Pow", 2, p, field.Pow(2, p), 2)
	want(t, "Pow", 7, p-1, field.Pow(7, p-1), 1)
	want(t, "Pow", 2, top, field.Pow(2, top), 1<<15)
}

func TestP3Inv(t *testing.T) {
	for _, a := range edges() {
		if a%p == 0 {
			continue
		}
		x, e := field.Inv(a)
		if e != api.OK || x == 0 || x >= p {
			t.Errorf("Inv(%d): %d, %d", a, x, e)
		}
		right := new(big.Int).ModInverse(whole(a), whole(p)).Uint64()
		want(t, "Inv", a, 0, x, right)
		want(t, "Mul", a, x, field.Mul(a, x), 1)
	}
}

func TestP3InvOfZero(t *testing.T) {
	for _, a := range []uint64{0, p, 2 * p, 3 * p, p * p, top / p * p} {
		x, e := field.Inv(a)
		if x != 0 || e != api.ErrArg {
			t.Errorf("Inv(%d): %d, %d", a, x, e)
		}
	}
}

func TestP3Examples(t *testing.T) {
	want(t, "Norm", top, 0, field.Norm(top), 3)
	want(t, "Add", top, top, field.Add(top, top), 6)
	want(t, "Sub", 0, top, field.Sub(0, top), p-3)
	want(t, "Sub", 3, 5, field.Sub(3, 5), p-2)
	want(t, "Mul", 1<<30, 2, field.Mul(1<<30, 2), 1)
	want(t, "Mul", top, top, field.Mul(top, top), 9)
	want(t, "Pow", 2, 31, field.Pow(2, 31), 1)
}

// all is what each call of the package answers of a and b.
func all(a, b uint64) [8]uint64 {
	inv, e := field.Inv(a)
	return [8]uint64{
		field.Norm(a), field.Add(a, b), field.Sub(a, b), field.Mul(a, b),
		field.Pow(a, b), inv, uint64(e), field.Norm(b),
	}
}

// FuzzP1P2 holds that each call answers, whatever it is given, that what it
// tells is from 0 to P - 1, and that it answers the same when asked again.
func FuzzP1P2(f *testing.F) {
	for _, a := range edges() {
		for _, b := range edges() {
			f.Add(a, b)
		}
	}
	f.Fuzz(func(t *testing.T, a, b uint64) {
		first := all(a, b)
		for i, told := range first {
			if told >= p {
				t.Errorf("of %d and %d answer %d is %d", a, b, i, told)
			}
		}
		all(b, a)
		if again := all(a, b); again != first {
			t.Errorf("of %d and %d: first %d, then %d", a, b, first, again)
		}
	})
}

func TestP2AnswersHangOnNoOtherCall(t *testing.T) {
	list := edges()
	first := make([][8]uint64, len(list))
	for i, a := range list {
		first[i] = all(a, list[len(list)-1-i])
	}
	for i := len(list) - 1; i >= 0; i-- {
		if again := all(list[i], list[len(list)-1-i]); again != first[i] {
			t.Errorf("of %d: first %d, then %d", list[i], first[i], again)
		}
	}
}
