package poly_test

import (
	"math"
	"math/big"
	"slices"
	"testing"

	"sharecroft/api"
	"sharecroft/poly"
)

const (
	p    = api.P
	top  = 1<<64 - 1
	most = api.MaxPoly
)

func whole(a uint64) *big.Int { return new(big.Int).SetUint64(a) }

func rest(a *big.Int) uint64 {
	return new(big.Int).Mod(a, whole(p)).Uint64()
}

// plain makes a normal by whole numbers, so that it shares no fault with the
// package.
func plain(a []*big.Int) []uint64 {
	var told []uint64
	for i, x := range a {
		if r := rest(x); r != 0 {
			told = append(told, make([]uint64, i+1-len(told))...)
			told[i] = r
		}
	}
	return told
}

func wholes(a []uint64) []*big.Int {
	list := make([]*big.Int, len(a))
	for i, x := range a {
		list[i] = whole(x)
	}
	return list
}

// times is the product, number by number, without any rest taken.
func times(a, b []uint64) []*big.Int {
	list := make([]*big.Int, len(a)+len(b))
	for i := range list {
		list[i] = new(big.Int)
	}
	for i, x := range a {
		for j, y := range b {
			list[i+j].Add(list[i+j], new(big.Int).Mul(whole(x), whole(y)))
		}
	}
	return list
}

// at is what a tells at x, power by power.
func at(a []uint64, x uint64) uint64 {
	sum, power := new(big.Int), big.NewInt(1)
	for _, y := range a {
		sum.Add(sum, new(big.Int).Mul(whole(y), power))
		power.Mul(power, whole(x))
	}
	return rest(sum)
}

// made is a list of n numbers that looks as if drawn; each seed has its own.
func made(n int, seed uint64) []uint64 {
	list := make([]uint64, n)
	for i := range list {
		seed = seed*6364136223846793005 + 1442695040888963407
		list[i] = seed ^ seed>>29
	}
	return list
}

func same(n int, x uint64) []uint64 {
	return slices.Repeat([]uint64{x}, n)
}

// samples are polynomials of all lengths that matter, normal and not.
func samples() [][]uint64 {
	return [][]uint64{
		nil, {}, {0}, {p}, {0, p, 2 * p}, same(most, 0), same(most, p),
		{1}, {p - 1}, {p + 1}, {top}, {0, 1}, {1, 1}, {p - 1, 1}, {1, 1, 0, p},
		{0, 0, 7}, {p, 2 * p, 5, 0}, {top, top - 1, top - 2}, {3, top - 3},
		{5, 3, 2}, {p - 2, p - 1}, same(7, p-1), made(2, 1), made(5, 2),
		made(19, 3), made(20, 4), same(20, top), made(21, 5), made(39, 6),
		same(39, 1), made(most, 7), same(most, p-1), same(most, top),
		append(made(3, 8), same(most-3, p)...), append(same(most-1, 0), 1),
	}
}

func isNormal(a []uint64) bool {
	for _, x := range a {
		if x >= p {
			return false
		}
	}
	return len(a) == 0 || a[len(a)-1] != 0
}

func TestP4Norm(t *testing.T) {
	for _, a := range samples() {
		got, e := poly.Norm(a)
		if right := plain(wholes(a)); e != api.OK || !slices.Equal(got, right) {
			t.Errorf("Norm(%d): %d, %d, not %d", a, got, e, right)
		}
	}
}

func TestP4Mul(t *testing.T) {
	for _, a := range samples() {
		for _, b := range samples() {
			got, e := poly.Mul(a, b)
			right, fault := plain(times(a, b)), api.OK
			if len(right) > most {
				right, fault = nil, api.ErrLarge
			}
			if e != fault || !slices.Equal(got, right) {
				t.Errorf("Mul(%d, %d): %d, %d, not %d, %d", a, b, got, e, right, fault)
			}
		}
	}
}

func TestP4MulAtItsBound(t *testing.T) {
	for n := 1; n <= most; n++ {
		fits, over := made(n, 11), made(n, 12)
		if a, e := poly.Mul(fits, made(most+1-n, 13)); e != api.OK || len(a) != most {
			t.Errorf("%d and %d numbers: %d, %d", n, most+1-n, len(a), e)
		}
		if n == 1 {
			continue
		}
		if a, e := poly.Mul(over, made(most+2-n, 14)); e != api.ErrLarge || len(a) != 0 {
			t.Errorf("%d and %d numbers: %d, %d", n, most+2-n, len(a), e)
		}
	}
}

func TestP4MulIsBoundedByNormalOnes(t *testing.T) {
	long := append([]uint64{2, 1}, same(most-2, p)...)
	if a, e := poly.Mul(long, long); e != api.OK || !slices.Equal(a, []uint64{4, 4, 1}) {
		t.Error(a, e)
	}
	for _, zero := range [][]uint64{nil, {0}, same(most, 0), same(most, p)} {
		if a, e := poly.Mul(made(most, 1), zero); e != api.OK || len(a) != 0 {
			t.Error(zero, a, e)
		}
		if a, e := poly.Mul(zero, made(most, 1)); e != api.OK || len(a) != 0 {
			t.Error(zero, a, e)
		}
	}
}

func TestP4Eval(t *testing.T) {
	for _, a := range samples() {
		for _, x := range []uint64{0, 1, 2, 9, p - 1, p, p + 1, 1 << 32, top - 1, top} {
			got, e := poly.Eval(a, x)
			if right := at(a, x); e != api.OK || got != right {
				t.Errorf("Eval(%d, %d): %d, %d, not %d", a, x, got, e, right)
			}
		}
	}
}

// checkDiv holds that a is the sum of q times b, and r, and that r is short
// enough; there is but one such pair.
func checkDiv(t *testing.T, a, b, q, r []uint64) {
	t.Helper()
	sum := times(q, b)
	for len(sum) < most {
		sum = append(sum, new(big.Int))
	}
	for i, x := range r {
		sum[i].Add(sum[i], whole(x))
	}
	if !slices.Equal(plain(sum), plain(wholes(a))) {
		t.Errorf("Div(%d, %d): %d and %d don't make it", a, b, q, r)
	}
	if !isNormal(q) || !isNormal(r) || len(r) >= len(plain(wholes(b))) {
		t.Errorf("Div(%d, %d): %d and %d aren't as they must be", a, b, q, r)
	}
}

func TestP4Div(t *testing.T) {
	for _, a := range samples() {
		for _, b := range samples() {
			q, r, e := poly.Div(a, b)
			if len(plain(wholes(b))) > 0 {
				if e != api.OK {
					t.Errorf("Div(%d, %d): %d", a, b, e)
				}
				checkDiv(t, a, b, q, r)
			} else if e != api.ErrNone || q != nil || r != nil {
				t.Errorf("Div(%d, %d): %d, %d, %d", a, b, q, r, e)
			}
		}
	}
}

func TestP4DivOfAProduct(t *testing.T) {
	for n := 1; n <= most; n++ {
		a, b := made(n, 21), made(most+1-n, 22)
		c, _ := poly.Mul(a, b)
		q, r, e := poly.Div(c, b)
		if e != api.OK || !slices.Equal(q, plain(wholes(a))) || len(r) != 0 {
			t.Errorf("%d numbers: %d, %d, %d", n, q, r, e)
		}
	}
}

func TestP4DivExamples(t *testing.T) {
	for _, c := range []struct{ a, b, q, r []uint64 }{
		{[]uint64{5, 3, 2}, []uint64{1, 1}, []uint64{1, 2}, []uint64{4}},
		{[]uint64{5, 3}, []uint64{1, 1, 1}, nil, []uint64{5, 3}},
		{[]uint64{5, 3, 0, p}, []uint64{1, 1, 1}, nil, []uint64{5, 3}},
		{[]uint64{6, 4}, []uint64{2, p}, []uint64{3, 2}, nil},
		{nil, []uint64{9}, nil, nil},
		{[]uint64{p - 1, 0, 1}, []uint64{1, 1}, []uint64{p - 1, 1}, nil},
	} {
		q, r, e := poly.Div(c.a, c.b)
		if e != api.OK || !slices.Equal(q, c.q) || !slices.Equal(r, c.r) {
			t.Errorf("Div(%d, %d): %d, %d, %d", c.a, c.b, q, r, e)
		}
	}
}

// tooLong are lists of more than MaxPoly numbers; what they have beyond it is
// counted though it is 0.
func tooLong() [][]uint64 {
	return [][]uint64{
		same(most+1, 0), same(most+1, p), same(most+1, 1), made(most+1, 31),
		append([]uint64{1}, same(most, 0)...), made(1000, 32),
	}
}

func TestP4Large(t *testing.T) {
	for _, long := range tooLong() {
		if a, e := poly.Norm(long); e != api.ErrLarge || a != nil {
			t.Error("Norm", len(long), a, e)
		}
		if x, e := poly.Eval(long, 3); e != api.ErrLarge || x != 0 {
			t.Error("Eval", len(long), x, e)
		}
		for _, b := range [][]uint64{nil, {0}, {p}, {1}, {2, 1}, made(most, 33), long} {
			for _, pair := range [][2][]uint64{{long, b}, {b, long}} {
				if a, e := poly.Mul(pair[0], pair[1]); e != api.ErrLarge || a != nil {
					t.Error("Mul", len(long), len(b), a, e)
				}
				if q, r, e := poly.Div(pair[0], pair[1]); e != api.ErrLarge || q != nil || r != nil {
					t.Error("Div", len(long), len(b), q, r, e)
				}
			}
		}
	}
}

// shares are n of them, at places that aren't in order.
func shares(n int, seed uint64) []api.Share {
	list := make([]api.Share, n)
	for i, y := range made(n, seed) {
		list[i] = api.Share{At: (i*17 + 5) % 41 * 52377649 % int(p), Y: y}
		if list[i].At == 0 {
			list[i].At = int(p) - 1
		}
	}
	return list
}

func TestP5Through(t *testing.T) {
	for n := 0; n <= most; n++ {
		l := shares(n, uint64(n)+41)
		a, e := poly.Through(l)
		if e != api.OK || len(a) > n || !isNormal(a) {
			t.Errorf("%d shares: %d, %d", n, a, e)
		}
		for _, share := range l {
			if y := at(a, uint64(share.At)); y != share.Y%p {
				t.Errorf("%d shares: at %d %d, not %d", n, share.At, y, share.Y%p)
			}
		}
	}
}

func TestP5ThroughFindsThePolynomial(t *testing.T) {
	for _, a := range samples() {
		right := plain(wholes(a))
		for _, more := range []int{0, 1, 5, most} {
			n := min(len(right)+more, most)
			l := shares(n, 0)
			for i := range l {
				l[i].Y = at(a, uint64(l[i].At))
			}
			if got, e := poly.Through(l); e != api.OK || !slices.Equal(got, right) {
				t.Errorf("through %d shares: %d, %d, not %d", n, got, e, right)
			}
		}
	}
}

func TestP5Examples(t *testing.T) {
	const last = int(p) - 1
	for _, c := range []struct {
		l     []api.Share
		right []uint64
	}{
		{nil, nil},
		{[]api.Share{{At: 1, Y: 5}, {At: 2, Y: 7}}, []uint64{3, 2}},
		{[]api.Share{{At: 2, Y: 7}, {At: 1, Y: 5}}, []uint64{3, 2}},
		{[]api.Share{{At: 4, Y: 0}}, nil},
		{[]api.Share{{At: 4, Y: 2 * p}}, nil},
		{[]api.Share{{At: last, Y: top}}, []uint64{3}},
		{[]api.Share{{At: 1, Y: p}, {At: 7, Y: 0}, {At: 3, Y: 3 * p}}, nil},
		{[]api.Share{{At: 1, Y: 4}, {At: 2, Y: 4 + p}, {At: 3, Y: 4}}, []uint64{4}},
		{[]api.Share{{At: 1, Y: 1}, {At: last, Y: p - 1}}, []uint64{0, 1}},
		{[]api.Share{{At: 1, Y: 1}, {At: last, Y: 1}, {At: 2, Y: 4}}, []uint64{0, 0, 1}},
	} {
		if got, e := poly.Through(c.l); e != api.OK || !slices.Equal(got, c.right) {
			t.Errorf("Through(%v): %d, %d, not %d", c.l, got, e, c.right)
		}
	}
}

func TestP5WrongPlaces(t *testing.T) {
	wrong := []int{
		math.MinInt, math.MinInt + 1, -int(p) - 1, -int(p), -1, 0,
		int(p), int(p) + 1, 2*int(p) + 1, 1 << 32, 1<<32 + 1, math.MaxInt,
	}
	for _, n := range []int{1, 2, 3, most} {
		for i := range n {
			for _, place := range wrong {
				l := shares(n, 51)
				l[i].At = place
				if a, e := poly.Through(l); e != api.ErrForm || a != nil {
					t.Errorf("share %d of %d at %d: %d, %d", i, n, place, a, e)
				}
			}
		}
	}
}

func TestP5OnePlaceTwice(t *testing.T) {
	for _, n := range []int{2, 3, most} {
		for i := range n {
			for j := range n {
				if i == j {
					continue
				}
				l := shares(n, 52)
				l[i].At = l[j].At
				if a, e := poly.Through(l); e != api.ErrForm || a != nil {
					t.Errorf("shares %d and %d of %d: %d, %d", i, j, n, a, e)
				}
				l[i].Y = l[j].Y
				if a, e := poly.Through(l); e != api.ErrForm || a != nil {
					t.Errorf("share %d of %d, twice: %d, %d", i, n, a, e)
				}
			}
		}
	}
}

func TestP5LargeAheadOfForm(t *testing.T) {
	for _, l := range [][]api.Share{make([]api.Share, most+1), shares(most+1, 53), make([]api.Share, 1000)} {
		if a, e := poly.Through(l); e != api.ErrLarge || a != nil {
			t.Errorf("%d shares: %d, %d", len(l), a, e)
		}
	}
	if _, e := poly.Through(make([]api.Share, most)); e != api.ErrForm {
		t.Error(e)
	}
}

// roomy is a, with marked room behind it.
func roomy(a []uint64) []uint64 {
	return append(slices.Clone(a), 77, 78, 79, 80)[:len(a)]
}

// scribble writes over all of a list, its spare room included.
func scribble(a []uint64) {
	a = a[:cap(a)]
	for i := range a {
		a[i] = 666
	}
}

// answers are all lists that the package's calls tell of a, b and l, each
// call's beside each other.
func answers(a, b []uint64, x uint64, l []api.Share) [][]uint64 {
	norm, e1 := poly.Norm(a)
	product, e2 := poly.Mul(a, b)
	y, e3 := poly.Eval(a, x)
	q, r, e4 := poly.Div(a, b)
	through, e5 := poly.Through(l)
	told := []uint64{uint64(e1), uint64(e2), y, uint64(e3), uint64(e4), uint64(e5)}
	return [][]uint64{norm, product, q, r, through, told}
}

func copies(lists [][]uint64) [][]uint64 {
	list := make([][]uint64, len(lists))
	for i, a := range lists {
		list[i] = slices.Clone(a)
	}
	return list
}

func equalLists(a, b [][]uint64) bool {
	return slices.EqualFunc(a, b, slices.Equal[[]uint64])
}

// checkMemory holds that nothing handed in is changed, that no answer shares
// memory with what was handed in or with another answer, and that what is
// asked again is answered alike.
func checkMemory(t *testing.T, a, b []uint64, x uint64, l []api.Share) {
	t.Helper()
	ra, rb := roomy(a), roomy(b)
	rl := append(slices.Clone(l), api.Share{At: 71, Y: 72}, api.Share{At: 73, Y: 74})[:len(l)]
	handed := func() bool {
		return slices.Equal(ra[:len(a)+4], append(slices.Clone(a), 77, 78, 79, 80)) &&
			slices.Equal(rb[:len(b)+4], append(slices.Clone(b), 77, 78, 79, 80)) &&
			slices.Equal(rl[:len(l)+2], append(slices.Clone(l), api.Share{At: 71, Y: 72}, api.Share{At: 73, Y: 74}))
	}
	told := answers(ra, rb, x, rl)
	first := copies(told)
	if !handed() {
		t.Errorf("%d, %d, %v: changed", a, b, l)
	}
	for i := range told {
		scribble(told[i])
		if !handed() || !equalLists(told[i+1:], first[i+1:]) {
			t.Errorf("%d, %d, %v: answer %d shares memory", a, b, l, i)
		}
	}
	if again := answers(ra, rb, x, rl); !equalLists(again, first) {
		t.Errorf("%d, %d, %v: first %d, then %d", a, b, l, first, again)
	}
}

func TestP2Memory(t *testing.T) {
	for i, a := range samples() {
		for _, b := range samples() {
			checkMemory(t, a, b, 3, shares(len(a), uint64(i)))
		}
	}
	for _, a := range tooLong() {
		checkMemory(t, a, a, 3, make([]api.Share, 3))
	}
}

func TestP2OneListTwice(t *testing.T) {
	a := made(5, 61)
	kept := slices.Clone(a)
	square, e := poly.Mul(a, a)
	if e != api.OK || !slices.Equal(square, plain(times(kept, kept))) {
		t.Error(square, e)
	}
	q, r, e := poly.Div(a, a)
	if e != api.OK || !slices.Equal(q, []uint64{1}) || len(r) != 0 || !slices.Equal(a, kept) {
		t.Error(q, r, e, a)
	}
}

// numbers reads eight bytes a number.
func numbers(s []byte) []uint64 {
	var list []uint64
	for ; len(s) >= 8; s = s[8:] {
		x := uint64(0)
		for _, c := range s[:8] {
			x = x<<8 | uint64(c)
		}
		list = append(list, x)
	}
	return list
}

func FuzzP1P2(f *testing.F) {
	f.Add([]byte("12345678abcdefgh"), []byte("\x00\x00\x00\x00\x00\x00\x00\x01"), uint64(3))
	f.Add([]byte{}, []byte("\x00\x00\x00\x00\x7f\xff\xff\xff"), uint64(top))
	f.Add(make([]byte, 8*most), make([]byte, 8*most+8), uint64(p))
	f.Fuzz(func(t *testing.T, s, u []byte, x uint64) {
		a, b := numbers(s), numbers(u)
		var l []api.Share
		for i, y := range a {
			l = append(l, api.Share{At: int(x) + i*i, Y: y})
		}
		checkMemory(t, a, b, x, l)
		if q, r, e := poly.Div(a, b); e == api.OK {
			checkDiv(t, a, b, q, r)
		}
	})
}
