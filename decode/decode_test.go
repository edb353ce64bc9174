package decode_test

import (
	"math"
	"math/big"
	"slices"
	"testing"

	"sharecroft/api"
	"sharecroft/decode"
	"sharecroft/shamir"
)

const (
	p         = api.P
	top       = 1<<64 - 1
	most      = api.MaxParties
	mostWrong = 4
)

func whole(a uint64) *big.Int { return new(big.Int).SetUint64(a) }

func rest(a *big.Int) uint64 {
	return new(big.Int).Mod(a, whole(p)).Uint64()
}

// at is what the polynomial of these numbers tells at x, power by power, by
// whole numbers, so that it shares no fault with the package.
func at(coefs []uint64, x int) uint64 {
	sum, power := new(big.Int), big.NewInt(1)
	for _, y := range coefs {
		sum.Add(sum, new(big.Int).Mul(whole(y), power))
		power.Mul(power, big.NewInt(int64(x)))
	}
	return rest(sum)
}

// made is a list of n numbers that looks as if drawn; each seed has its own.
func made(n int, seed uint64) []uint64 {
	list := make([]uint64, n)
	for i := range list {
		seed = seed*6364136223846793005 + 1442695040888963407
		list[i] = seed ^ seed>>29
	}
	return list
}

func same(n int, x uint64) []uint64 {
	return slices.Repeat([]uint64{x}, n)
}

func rests(a []uint64) []uint64 {
	list := make([]uint64, len(a))
	for i, x := range a {
		list[i] = x % p
	}
	return list
}

// polynomials are lists of n numbers, some of which are 0 or rest 0 at the end.
func polynomials(n int) [][]uint64 {
	return [][]uint64{
		same(n, 0), same(n, p), same(n, p-1), same(n, top), made(n, 1),
		append([]uint64{5}, same(n-1, 0)...), append(same(n-1, 0), 1), append(made(n-1, 3), p),
	}
}

// orders are the parties' numbers in some orders, of which pieces are taken.
func orders() [][]int {
	return [][]int{
		{1, 2, 3, 4, 5, 6, 7, 8, 9},
		{9, 8, 7, 6, 5, 4, 3, 2, 1},
		{4, 9, 2, 7, 5, 1, 8, 3, 6},
	}
}

// picks are all choices of how many out of n places, rising.
func picks(n, many int) [][]int {
	if many == 0 {
		return [][]int{nil}
	}
	var list [][]int
	for last := many - 1; last < n; last++ {
		for _, ahead := range picks(last, many-1) {
			list = append(list, append(slices.Clone(ahead), last))
		}
	}
	return list
}

func sharesOf(coefs []uint64, ats []int) []api.Share {
	list := make([]api.Share, len(ats))
	for i, x := range ats {
		list[i] = api.Share{At: x, Y: at(coefs, x)}
	}
	return list
}

// spoiled is l with something added to the shares at these places: never a
// number whose rest is 0.
func spoiled(l []api.Share, places []int, seed int) ([]api.Share, []int) {
	list := slices.Clone(l)
	var ats []int
	for i, place := range places {
		list[place].Y += []uint64{1, p - 1, 1 << 30, 12345, p + 2}[(i+seed)%5]
		ats = append(ats, list[place].At)
	}
	slices.Sort(ats)
	return list, ats
}

// through is Lagrange's polynomial of the shares, as many numbers as shares.
func through(l []api.Share) []uint64 {
	sum := make([]uint64, len(l))
	for i, share := range l {
		part := []uint64{share.Y % p}
		for j, other := range l {
			if j != i {
				below := rest(big.NewInt(int64(share.At - other.At)))
				part = timesLine(part, uint64(other.At), new(big.Int).ModInverse(whole(below), whole(p)).Uint64())
			}
		}
		for k, x := range part {
			sum[k] = (sum[k] + x) % p
		}
	}
	return sum
}

// timesLine is a times (x - root) times by.
func timesLine(a []uint64, root, by uint64) []uint64 {
	list := make([]uint64, len(a)+1)
	for i, x := range a {
		list[i+1] = (list[i+1] + x*by) % p
		list[i] = (list[i] + x*by%p*(p-root)) % p
	}
	return list
}

func missed(coefs []uint64, l []api.Share) []int {
	ats := []int{}
	for _, share := range l {
		if at(coefs, share.At) != share.Y%p {
			ats = append(ats, share.At)
		}
	}
	slices.Sort(ats)
	return ats
}

// search tries the polynomial of each few + 1 shares: one that misses at most
// wrong shares has so many, if there are shares enough.
func search(few, wrong int, l []api.Share) ([]uint64, []int, api.Errno) {
	for _, pick := range picks(len(l), few+1) {
		var some []api.Share
		for _, place := range pick {
			some = append(some, l[place])
		}
		coefs := through(some)
		if bad := missed(coefs, l); len(bad) <= wrong {
			return coefs, bad, api.OK
		}
	}
	return nil, nil, api.ErrWrong
}

func expect(t *testing.T, few, wrong int, l []api.Share, coefs []uint64, bad []int, right api.Errno) {
	t.Helper()
	a, b, e := decode.Decode(few, wrong, l)
	if e != right || !slices.Equal(a, coefs) || !slices.Equal(b, bad) {
		t.Errorf("Decode(%d, %d, %v): %d, %d, %d, not %d, %d, %d", few, wrong, l, a, b, e, coefs, bad, right)
	}
	if e != api.OK && (a != nil || b != nil) {
		t.Errorf("Decode(%d, %d, %v): lists beside error %d", few, wrong, l, e)
	}
}

func expectOpen(t *testing.T, few int, l []api.Share, secret uint64, bad []int, right api.Errno) {
	t.Helper()
	x, b, e := decode.Open(few, l)
	if e != right || x != secret || !slices.Equal(b, bad) {
		t.Errorf("Open(%d, %v): %d, %d, %d, not %d, %d, %d", few, l, x, b, e, secret, bad, right)
	}
	if e != api.OK && b != nil {
		t.Errorf("Open(%d, %v): a list beside error %d", few, l, e)
	}
}

func numbers(ys ...uint64) []api.Share {
	list := make([]api.Share, len(ys))
	for i, y := range ys {
		list[i] = api.Share{At: i + 1, Y: y}
	}
	return list
}

func TestP9DecodeExamples(t *testing.T) {
	expect(t, 0, 1, numbers(5, 6, 5), []uint64{5}, []int{2}, api.OK)
	expect(t, 0, 0, numbers(5, 6, 5), nil, nil, api.ErrWrong)
	expect(t, 0, 1, numbers(5, 6, 7), nil, nil, api.ErrWrong)
	expect(t, 0, 1, numbers(5+p, 6, 5+2*p), []uint64{5}, []int{2}, api.OK)
	expect(t, 0, 0, numbers(top), []uint64{3}, nil, api.OK)
	expect(t, 1, 0, numbers(7, 9), []uint64{5, 2}, nil, api.OK)
	expect(t, 1, 1, numbers(7, 9, 11, 14), []uint64{5, 2}, []int{4}, api.OK)
	expect(t, 1, 1, numbers(8, 9, 11, 13), []uint64{5, 2}, []int{1}, api.OK)
	expect(t, 1, 1, numbers(5, 5, 5, 6), []uint64{5, 0}, []int{4}, api.OK)
	expect(t, 1, 1, numbers(7, 9, 12, 16), nil, nil, api.ErrWrong)
	expect(t, 1, 1, numbers(7, 9, 12, 15), []uint64{3, 3}, []int{1}, api.OK)
	expect(t, 4, 0, numbers(0, p, 0, 2*p, 0), same(5, 0), nil, api.OK)
	expect(t, 0, 4, numbers(1, 5, 2, 5, 3, 5, 4, 5, 5), []uint64{5}, []int{1, 3, 5, 7}, api.OK)
	expect(t, 0, 4, numbers(1, 5, 1, 5, 1, 5, 1, 5, 6), nil, nil, api.ErrWrong)
}

func TestP9OpenExamples(t *testing.T) {
	expectOpen(t, 0, numbers(5, 6, 5), 5, []int{2}, api.OK)
	expectOpen(t, 0, numbers(5, 6), 0, nil, api.ErrWrong)
	expectOpen(t, 0, numbers(5, 5+p), 5, nil, api.OK)
	expectOpen(t, 0, numbers(5, 5, 6, 6), 0, nil, api.ErrWrong)
	expectOpen(t, 0, numbers(top), 3, nil, api.OK)
	expectOpen(t, 1, numbers(7, 9), 5, nil, api.OK)
	expectOpen(t, 1, numbers(7, 9, 12), 0, nil, api.ErrWrong)
	expectOpen(t, 1, numbers(7, 9, 12, 13), 5, []int{3}, api.OK)
	expectOpen(t, 1, []api.Share{{At: 9, Y: 0}, {At: 4, Y: 13}, {At: 7, Y: 1}, {At: 2, Y: 9}, {At: 1, Y: 7}, {At: 3, Y: 11}}, 5, []int{7, 9}, api.OK)
	expectOpen(t, 0, numbers(1, 5, 2, 5, 3, 5, 4, 5, 5), 5, []int{1, 3, 5, 7}, api.OK)
	expectOpen(t, 1, numbers(1, 2, 3, 4), 0, nil, api.OK)
}

// Each choice of wrong shares, up to as many as may be wrong, is told.
func TestP9DecodeTellsWhichAreWrong(t *testing.T) {
	for _, order := range orders() {
		for n := 1; n <= most; n++ {
			for few := range min(n, api.MaxT+1) {
				for wrong := 0; few+1+2*wrong <= n; wrong++ {
					for many := range wrong + 1 {
						for i, places := range picks(n, many) {
							list := polynomials(few + 1)
							coefs := list[i%len(list)]
							l, bad := spoiled(sharesOf(coefs, order[:n]), places, i)
							expect(t, few, wrong, l, rests(coefs), bad, api.OK)
						}
					}
				}
			}
		}
	}
}

func TestP9DecodeOfEachPolynomial(t *testing.T) {
	for _, order := range orders() {
		for few := range api.MaxT + 1 {
			wrong := (most - few - 1) / 2
			for i, coefs := range polynomials(few + 1) {
				l, bad := spoiled(sharesOf(coefs, order), []int{1, 3, 4, 8}[:wrong], i)
				expect(t, few, wrong, l, rests(coefs), bad, api.OK)
				expectOpen(t, few, l, coefs[0]%p, bad, api.OK)
			}
		}
	}
}

// Open looks for as many wrong shares as there may be, and no more.
func TestP9OpenTellsWhichAreWrong(t *testing.T) {
	for _, order := range orders() {
		for n := 1; n <= most; n++ {
			for few := range min(n, api.MaxT+1) {
				wrong := (n - few - 1) / 2
				for many := range wrong + 1 {
					for i, places := range picks(n, many) {
						coefs := made(few+1, uint64(i))
						l, bad := spoiled(sharesOf(coefs, order[:n]), places, i)
						expectOpen(t, few, l, coefs[0]%p, bad, api.OK)
					}
				}
			}
		}
	}
}

// One more wrong share than asked for: the polynomial of the others isn't
// told, though with room for one more it would be.
func TestP9DecodeOfOneMoreWrong(t *testing.T) {
	for n := 1; n <= most; n++ {
		for few := range min(n, api.MaxT+1) {
			for wrong := 0; few+1+2*(wrong+1) <= n; wrong++ {
				for i, places := range picks(n, wrong+1) {
					coefs := made(few+1, uint64(i))
					l, bad := spoiled(sharesOf(coefs, orders()[2][:n]), places, i)
					expect(t, few, wrong, l, nil, nil, api.ErrWrong)
					expect(t, few, wrong+1, l, rests(coefs), bad, api.OK)
				}
			}
		}
	}
}

// held holds Decode, of all numbers of wrong shares, and Open to search.
func held(t *testing.T, few int, l []api.Share) {
	t.Helper()
	for wrong := 0; few+1+2*wrong <= len(l); wrong++ {
		coefs, bad, e := search(few, wrong, l)
		expect(t, few, wrong, l, coefs, bad, e)
		if few+1+2*(wrong+1) > len(l) {
			secret := uint64(0)
			if e == api.OK {
				secret = coefs[0]
			}
			expectOpen(t, few, l, secret, bad, e)
		}
	}
}

// Of numbers as small as these, wrong shares often fit to some polynomial.
func TestP9AllSmallNumbers(t *testing.T) {
	for n := 1; n <= 6; n++ {
		count := 1
		for range n {
			count *= 3
		}
		for code := range count {
			l := make([]api.Share, n)
			for i := range l {
				l[i] = api.Share{At: orders()[2][i], Y: uint64(code % 3)}
				code /= 3
			}
			for few := range min(n, api.MaxT+1) {
				held(t, few, l)
			}
		}
	}
}

// Shares of two polynomials: the one that is told has enough of them, or none
// is.
func TestP9SharesOfTwoPolynomials(t *testing.T) {
	for few := range api.MaxT + 1 {
		for n := few + 1; n <= most; n++ {
			for many := range n + 1 {
				l := sharesOf(made(few+1, 1), orders()[2][:n])
				copy(l, sharesOf(made(few+1, 2), orders()[2][:many]))
				held(t, few, l)
				slices.Reverse(l)
				held(t, few, l)
			}
		}
	}
}

// A polynomial of more than t + 1 numbers is none that is asked for, though it
// has all shares.
func TestP9OfTooManyNumbers(t *testing.T) {
	for few := range api.MaxT + 1 {
		for n := few + 2; n <= most; n++ {
			for more := few + 2; more <= n; more++ {
				held(t, few, sharesOf(append(same(more-1, 0), 1), orders()[0][:n]))
				held(t, few, sharesOf(made(more, 4), orders()[2][:n]))
			}
		}
	}
}

// badTs are numbers of draws that there may not be.
func badTs() []int {
	return []int{math.MinInt, -1 << 32, -1, api.MaxT + 1, most, 1 << 32, math.MaxInt}
}

// badWrongs are numbers of wrong shares that there may not be; some wrap round
// to a small number when doubled.
func badWrongs() []int {
	return []int{math.MinInt, math.MinInt + 1, -1 << 32, -4, -1, mostWrong + 1, most, 1 << 32, 1 << 62, math.MaxInt}
}

// badAts are numbers that no party has; some would be one by their rest.
func badAts() []int {
	return []int{math.MinInt, -int(p), -1, 0, most + 1, 16, 256 + 1, int(p), int(p) + 1, 1<<32 + 1, math.MaxInt}
}

func allWrongs() []int {
	return append(badWrongs(), 0, 1, 2, 3, 4)
}

// misformed are lists that aren't of different parties.
func misformed() [][]api.Share {
	list := [][]api.Share{make([]api.Share, 1), make([]api.Share, 1000), sharesOf([]uint64{5}, []int{1, 2, 3, 4, 5, 6, 7, 8, 9, 10}), sharesOf([]uint64{5}, []int{1, 2, 3, 4, 5, 6, 7, 8, 9, 9})}
	for n := 1; n <= most; n++ {
		for i := range n {
			for _, place := range badAts() {
				l := sharesOf([]uint64{5}, orders()[2][:n])
				l[i].At = place
				list = append(list, l)
			}
			for j := range i {
				l := sharesOf([]uint64{5}, orders()[2][:n])
				l[i].At = l[j].At
				list = append(list, l)
			}
		}
	}
	return list
}

func TestP9ArgOfT(t *testing.T) {
	lists := append(misformed(), nil, []api.Share{}, numbers(5), sharesOf([]uint64{5}, orders()[1]))
	for _, few := range badTs() {
		for _, l := range lists {
			for _, wrong := range allWrongs() {
				expect(t, few, wrong, l, nil, nil, api.ErrArg)
			}
			expectOpen(t, few, l, 0, nil, api.ErrArg)
		}
	}
}

func TestP9FormComesAheadOfWrong(t *testing.T) {
	for few := range api.MaxT + 1 {
		for _, l := range misformed() {
			for _, wrong := range allWrongs() {
				expect(t, few, wrong, l, nil, nil, api.ErrForm)
			}
			expectOpen(t, few, l, 0, nil, api.ErrForm)
		}
	}
}

func TestP9ArgOfWrongComesAheadOfNone(t *testing.T) {
	for few := range api.MaxT + 1 {
		for n := range most + 1 {
			for _, wrong := range badWrongs() {
				expect(t, few, wrong, sharesOf([]uint64{5}, orders()[2][:n]), nil, nil, api.ErrArg)
			}
		}
	}
}

// Too few shares are told ahead of what they tell.
func TestP9None(t *testing.T) {
	for few := range api.MaxT + 1 {
		for n := range most + 1 {
			good, odd := sharesOf(made(few+1, 5), orders()[2][:n]), sharesOf(made(n, 6), orders()[0][:n])
			for wrong := range mostWrong + 1 {
				if n < few+1+2*wrong {
					expect(t, few, wrong, good, nil, nil, api.ErrNone)
					expect(t, few, wrong, odd, nil, nil, api.ErrNone)
				} else {
					expect(t, few, wrong, good, rests(made(few+1, 5)), nil, api.OK)
				}
			}
			if n <= few {
				expectOpen(t, few, good, 0, nil, api.ErrNone)
			}
		}
		expect(t, few, 0, nil, nil, nil, api.ErrNone)
		expectOpen(t, few, nil, 0, nil, api.ErrNone)
	}
}

func TestP9OpenOfDeal(t *testing.T) {
	for few := range api.MaxT + 1 {
		for n := few + 1; n <= most; n++ {
			for _, secret := range []uint64{0, 1, p - 1, p, p + 1, top} {
				dealt, _ := shamir.Deal(secret, made(few, secret), n)
				l := numbers(dealt...)
				expectOpen(t, few, l, secret%p, nil, api.OK)
				if n >= few+3 {
					l[n-1].Y++
					expectOpen(t, few, l, secret%p, []int{n}, api.OK)
				}
			}
		}
	}
}

// roomy is a, with marked room behind it.
func roomy(l []api.Share, mark api.Share) []api.Share {
	return append(slices.Clone(l), mark, mark)[:len(l)]
}

// scribble writes over all of a list, its spare room included.
func scribble[T int | uint64](a []T) {
	a = a[:cap(a)]
	for i := range a {
		a[i] = 666
	}
}

// checkMemory holds that the shares are not changed, that no list that is told
// shares memory with them or with another one, and that what is asked again is
// answered alike.
func checkMemory(t *testing.T, few, wrong int, l []api.Share) {
	t.Helper()
	mark := api.Share{At: 71, Y: 72}
	handed := roomy(l, mark)
	kept := func() bool {
		return slices.Equal(handed[:len(l)+2], append(slices.Clone(l), mark, mark))
	}
	coefs, bad, e := decode.Decode(few, wrong, handed)
	rightCoefs, rightBad := slices.Clone(coefs), slices.Clone(bad)
	secret, who, f := decode.Open(few, handed)
	rightWho := slices.Clone(who)
	scribble(coefs)
	if !kept() || !slices.Equal(bad, rightBad) || !slices.Equal(who, rightWho) {
		t.Errorf("%d, %d, %v: the numbers share memory", few, wrong, l)
	}
	scribble(bad)
	if !kept() || !slices.Equal(who, rightWho) {
		t.Errorf("%d, %d, %v: Decode's wrong ones share memory", few, wrong, l)
	}
	scribble(who)
	if !kept() {
		t.Errorf("%d, %d, %v: Open's wrong ones share memory", few, wrong, l)
	}
	expect(t, few, wrong, handed, rightCoefs, rightBad, e)
	expectOpen(t, few, handed, secret, rightWho, f)
}

func TestP2Memory(t *testing.T) {
	for few := -1; few <= api.MaxT+1; few++ {
		for wrong := -1; wrong <= mostWrong+1; wrong++ {
			for n := range most + 2 {
				ats := append(slices.Clone(orders()[2]), 0)[:n]
				l := sharesOf(made(max(few+1, 0), 7), ats)
				checkMemory(t, few, wrong, l)
				for many := range n {
					worse, _ := spoiled(l, picks(n, many)[0], many)
					checkMemory(t, few, wrong, worse)
				}
			}
		}
	}
}

func FuzzP1P2(f *testing.F) {
	f.Add(1, 1, []byte("\x01\x02\x03\x04"), []byte("\x07\x09\x0b\x0e"), uint64(1), 0)
	f.Add(0, 4, []byte("\x09\x08\x07\x06\x05\x04\x03\x02\x01"), []byte("\x01\x05\x02\x05\x03\x05\x04\x05\x05"), uint64(top), 0)
	f.Add(-1, 0, []byte{}, []byte{}, uint64(0), 1)
	f.Add(2, math.MaxInt, []byte("\x01\x01"), []byte("\x01"), uint64(p), math.MaxInt)
	f.Fuzz(func(t *testing.T, few, wrong int, places, ys []byte, by uint64, off int) {
		var l []api.Share
		for i, c := range places[:min(len(places), 24)] {
			share := api.Share{At: int(c) + off}
			if i < len(ys) {
				share.Y = uint64(ys[i]) * by
			}
			l = append(l, share)
		}
		checkMemory(t, few, wrong, l)
		if shamir.Check(few, l) == api.OK {
			held(t, few, l)
		}
	})
}
