package shamir_test

import (
	"math"
	"math/big"
	"slices"
	"testing"

	"sharecroft/api"
	"sharecroft/shamir"
)

const (
	p    = api.P
	top  = 1<<64 - 1
	most = api.MaxParties
)

func whole(a uint64) *big.Int { return new(big.Int).SetUint64(a) }

func rest(a *big.Int) uint64 {
	return new(big.Int).Mod(a, whole(p)).Uint64()
}

// at is what the polynomial of these numbers tells at x, power by power, by
// whole numbers, so that it shares no fault with the package.
func at(coefs []uint64, x int) uint64 {
	sum, power := new(big.Int), big.NewInt(1)
	for _, y := range coefs {
		sum.Add(sum, new(big.Int).Mul(whole(y), power))
		power.Mul(power, big.NewInt(int64(x)))
	}
	return rest(sum)
}

// made is a list of n numbers that looks as if drawn; each seed has its own.
func made(n int, seed uint64) []uint64 {
	list := make([]uint64, n)
	for i := range list {
		seed = seed*6364136223846793005 + 1442695040888963407
		list[i] = seed ^ seed>>29
	}
	return list
}

func same(n int, x uint64) []uint64 {
	return slices.Repeat([]uint64{x}, n)
}

// secrets are of all kinds: small, at the edge of P, beyond it.
func secrets() []uint64 {
	return []uint64{0, 1, 5, p - 1, p, p + 1, 2*p + 7, 1 << 32, top - 1, top}
}

// drawsOf are lists of t draws, some of which are 0 or rest 0 at the end.
func drawsOf(t int) [][]uint64 {
	list := [][]uint64{same(t, 0), same(t, p), same(t, p-1), same(t, top), made(t, 1), made(t, 2)}
	if t > 0 {
		list = append(list, append(made(t-1, 3), p), append(same(t-1, 0), 1))
	}
	return list
}

// choices are all lists of at least one party, each in three orders.
func choices() [][]int {
	var list [][]int
	for set := 1; set < 1<<most; set++ {
		var rising, mixed []int
		for i := range most {
			if set>>i&1 == 1 {
				rising = append(rising, i+1)
			}
			if other := (i*4 + 2) % most; set>>other&1 == 1 {
				mixed = append(mixed, other+1)
			}
		}
		falling := slices.Clone(rising)
		slices.Reverse(falling)
		list = append(list, rising, mixed, falling)
	}
	return list
}

func sharesOf(coefs []uint64, ats []int) []api.Share {
	list := make([]api.Share, len(ats))
	for i, x := range ats {
		list[i] = api.Share{At: x, Y: at(coefs, x)}
	}
	return list
}

func TestP7DealExamples(t *testing.T) {
	for _, c := range []struct {
		secret uint64
		draws  []uint64
		n      int
		right  []uint64
	}{
		{5, []uint64{2}, 3, []uint64{7, 9, 11}},
		{5, []uint64{2}, 2, []uint64{7, 9}},
		{5, nil, 1, []uint64{5}},
		{5, []uint64{}, 3, []uint64{5, 5, 5}},
		{p + 5, []uint64{p, p + 1}, 3, []uint64{6, 9, 14}},
		{5, []uint64{p - 1}, 6, []uint64{4, 3, 2, 1, 0, p - 1}},
		{0, []uint64{0, 0, 0, 1}, 5, []uint64{1, 16, 81, 256, 625}},
	} {
		got, e := shamir.Deal(c.secret, c.draws, c.n)
		if e != api.OK || !slices.Equal(got, c.right) {
			t.Errorf("Deal(%d, %d, %d): %d, %d, not %d", c.secret, c.draws, c.n, got, e, c.right)
		}
	}
}

func TestP7Deal(t *testing.T) {
	for few := range api.MaxT + 1 {
		for n := few + 1; n <= most; n++ {
			for _, secret := range secrets() {
				for _, draws := range drawsOf(few) {
					checkDeal(t, secret, draws, n)
				}
			}
		}
	}
}

func checkDeal(t *testing.T, secret uint64, draws []uint64, n int) {
	t.Helper()
	coefs := append([]uint64{secret}, draws...)
	got, e := shamir.Deal(secret, draws, n)
	if e != api.OK || len(got) != n {
		t.Fatalf("Deal(%d, %d, %d): %d, %d", secret, draws, n, got, e)
	}
	for i, y := range got {
		if right := at(coefs, i+1); y != right {
			t.Errorf("Deal(%d, %d, %d): party %d has %d, not %d", secret, draws, n, i+1, y, right)
		}
	}
}

func TestP7DealWrong(t *testing.T) {
	for few := range api.MaxT + 1 {
		for _, n := range []int{math.MinInt, -1 << 32, -few, -1, 0, few, most + 1, most + 2, 1<<32 + most, math.MaxInt} {
			if got, e := shamir.Deal(5, made(few, 4), n); e != api.ErrArg || got != nil {
				t.Errorf("%d draws, %d parties: %d, %d", few, n, got, e)
			}
		}
	}
	for _, few := range []int{api.MaxT + 1, api.MaxT + 2, most - 1, most, 1000} {
		for _, draws := range [][]uint64{made(few, 5), same(few, 0), same(few, p)} {
			for n := -1; n <= most+2; n++ {
				if got, e := shamir.Deal(5, draws, n); e != api.ErrArg || got != nil {
					t.Errorf("%d draws, %d parties: %d, %d", few, n, got, e)
				}
			}
		}
	}
}

// badTs are numbers of draws that there may not be.
func badTs() []int {
	return []int{math.MinInt, -1 << 32, -1, api.MaxT + 1, most, 1 << 32, math.MaxInt}
}

// badAts are numbers that no party has; some would be one by their rest.
func badAts() []int {
	return []int{math.MinInt, -int(p), -1, 0, most + 1, 16, 256 + 1, int(p), int(p) + 1, 1<<32 + 1, math.MaxInt}
}

// told holds both calls that begin with Check to one error.
func told(t *testing.T, few int, l []api.Share, right api.Errno) {
	t.Helper()
	if e := shamir.Check(few, l); e != right {
		t.Errorf("Check(%d, %v): %d, not %d", few, l, e, right)
	}
	if x, e := shamir.Open(few, l); e != right || x != 0 {
		t.Errorf("Open(%d, %v): %d, %d, not %d", few, l, x, e, right)
	}
}

func TestP7CheckArg(t *testing.T) {
	twice := []api.Share{{At: 1, Y: 7}, {At: 1, Y: 7}}
	for _, few := range badTs() {
		for _, l := range [][]api.Share{nil, {}, {{At: 1, Y: 7}}, {{At: 0, Y: 7}}, twice, sharesOf(made(1, 6), []int{1, 2, 3, 4, 5, 6, 7, 8, 9})} {
			told(t, few, l, api.ErrArg)
		}
	}
}

func TestP7CheckForm(t *testing.T) {
	coefs := []uint64{5}
	for few := range api.MaxT + 1 {
		for n := 1; n <= most; n++ {
			for i := range n {
				for _, place := range badAts() {
					l := sharesOf(coefs, []int{9, 2, 7, 4, 5, 6, 3, 8, 1}[:n])
					l[i].At = place
					told(t, few, l, api.ErrForm)
				}
				for j := range i {
					l := sharesOf(coefs, []int{9, 2, 7, 4, 5, 6, 3, 8, 1}[:n])
					l[i].At = l[j].At
					told(t, few, l, api.ErrForm)
					l[i].Y++
					told(t, few, l, api.ErrForm)
				}
			}
		}
		told(t, few, sharesOf(coefs, []int{1, 2, 3, 4, 5, 6, 7, 8, 9, 10}), api.ErrForm)
		told(t, few, sharesOf(coefs, []int{1, 2, 3, 4, 5, 6, 7, 8, 9, 1}), api.ErrForm)
		told(t, few, make([]api.Share, 1000), api.ErrForm)
	}
}

func TestP7CheckNone(t *testing.T) {
	for few := range api.MaxT + 1 {
		told(t, few, nil, api.ErrNone)
		told(t, few, []api.Share{}, api.ErrNone)
	}
	for _, ats := range choices() {
		for few := range api.MaxT + 1 {
			l := sharesOf([]uint64{5, 2}, ats)
			if len(ats) <= few {
				told(t, few, l, api.ErrNone)
			} else if e := shamir.Check(few, l); e != api.OK {
				t.Errorf("Check(%d, %v): %d", few, l, e)
			}
		}
	}
}

func TestP7CheckDoesNotAskWhatSharesTell(t *testing.T) {
	l := []api.Share{{At: 1, Y: 7}, {At: 2, Y: 9}, {At: 3, Y: 12}, {At: 9, Y: top}}
	if e := shamir.Check(1, l); e != api.OK {
		t.Error(e)
	}
}

func TestP7OpenExamples(t *testing.T) {
	for _, c := range []struct {
		few   int
		l     []api.Share
		right uint64
		e     api.Errno
	}{
		{1, []api.Share{{At: 1, Y: 7}, {At: 2, Y: 9}, {At: 3, Y: 11}}, 5, api.OK},
		{1, []api.Share{{At: 3, Y: 11 + p}, {At: 1, Y: 7 + 2*p}}, 5, api.OK},
		{0, []api.Share{{At: 9, Y: 5}}, 5, api.OK},
		{0, []api.Share{{At: 9, Y: top}}, top % p, api.OK},
		{0, []api.Share{{At: 9, Y: 5}, {At: 1, Y: 5 + p}}, 5, api.OK},
		{0, []api.Share{{At: 9, Y: 5}, {At: 1, Y: 6}}, 0, api.ErrWrong},
		{1, []api.Share{{At: 1, Y: 7}, {At: 2, Y: 9}, {At: 3, Y: 12}}, 0, api.ErrWrong},
		{2, []api.Share{{At: 1, Y: 7}, {At: 2, Y: 9}, {At: 3, Y: 12}}, 6, api.OK},
		{4, []api.Share{{At: 1, Y: 0}, {At: 2, Y: p}, {At: 3, Y: 0}, {At: 4, Y: 0}, {At: 5, Y: 0}}, 0, api.OK},
		{1, []api.Share{{At: 1, Y: 1}, {At: 2, Y: 2}}, 0, api.OK},
	} {
		if got, e := shamir.Open(c.few, c.l); e != c.e || got != c.right {
			t.Errorf("Open(%d, %v): %d, %d, not %d, %d", c.few, c.l, got, e, c.right, c.e)
		}
	}
}

func TestP7OpenTellsTheSecret(t *testing.T) {
	for _, ats := range choices() {
		for few := range min(api.MaxT+1, len(ats)) {
			for i, draws := range drawsOf(few) {
				secret := secrets()[(i+len(ats)+ats[0])%len(secrets())]
				l := sharesOf(append([]uint64{secret}, draws...), ats)
				if got, e := shamir.Open(few, l); e != api.OK || got != secret%p {
					t.Errorf("Open(%d, %v): %d, %d, not %d", few, l, got, e, secret%p)
				}
			}
		}
	}
}

func TestP7OpenTellsAWrongShare(t *testing.T) {
	for _, ats := range choices() {
		for few := range min(api.MaxT+1, len(ats)-1) {
			coefs := made(few+1, uint64(ats[0]))
			for i := range ats {
				l := sharesOf(coefs, ats)
				l[i].Y += []uint64{1, p - 1, 1 << 30}[i%3]
				if got, e := shamir.Open(few, l); e != api.ErrWrong || got != 0 {
					t.Errorf("Open(%d, %v): %d, %d", few, l, got, e)
				}
				l[i].Y = at(coefs, ats[i]) + p
				if got, e := shamir.Open(few, l); e != api.OK || got != coefs[0]%p {
					t.Errorf("Open(%d, %v): %d, %d", few, l, got, e)
				}
			}
		}
	}
}

// A dealing with more draws than t has no polynomial of t + 1 numbers, if there
// are shares enough to see it.
func TestP7OpenOfTooManyDraws(t *testing.T) {
	for _, ats := range choices() {
		for few := range api.MaxT + 1 {
			for more := few + 2; more <= len(ats); more++ {
				l := sharesOf(append(made(more-1, 7), 1), ats)
				if got, e := shamir.Open(few, l); e != api.ErrWrong || got != 0 {
					t.Errorf("Open(%d, %v): %d, %d", few, l, got, e)
				}
			}
		}
	}
}

func TestP7OpenOfDeal(t *testing.T) {
	for few := range api.MaxT + 1 {
		for n := few + 1; n <= most; n++ {
			for _, secret := range secrets() {
				numbers, _ := shamir.Deal(secret, made(few, secret), n)
				var l []api.Share
				for i, y := range numbers {
					l = append(l, api.Share{At: i + 1, Y: y})
				}
				for ; len(l) > few; l = l[1:] {
					if got, e := shamir.Open(few, l); e != api.OK || got != secret%p {
						t.Errorf("%d, %v: %d, %d, not %d", few, l, got, e, secret%p)
					}
				}
			}
		}
	}
}

func TestP8Examples(t *testing.T) {
	for _, c := range []struct {
		ats   []int
		right []uint64
	}{
		{[]int{1}, []uint64{1}},
		{[]int{9}, []uint64{1}},
		{[]int{1, 2}, []uint64{2, p - 1}},
		{[]int{2, 1}, []uint64{p - 1, 2}},
		{[]int{3, 1, 2}, []uint64{1, 3, p - 3}},
		{[]int{1, 3}, []uint64{1<<30 + 1, 1<<30 - 1}},
		{[]int{1, 2, 3, 4, 5, 6, 7, 8, 9}, []uint64{9, p - 36, 84, p - 126, 126, p - 84, 36, p - 9, 1}},
	} {
		if got, e := shamir.Weights(c.ats); e != api.OK || !slices.Equal(got, c.right) {
			t.Errorf("Weights(%d): %d, %d, not %d", c.ats, got, e, c.right)
		}
	}
}

// What holds of each power that a polynomial of so many numbers has, holds of
// all such polynomials; and only these weights have it.
func TestP8Weights(t *testing.T) {
	for _, ats := range choices() {
		weights, e := shamir.Weights(ats)
		if e != api.OK || len(weights) != len(ats) {
			t.Fatalf("Weights(%d): %d, %d", ats, weights, e)
		}
		for power := range ats {
			sum := new(big.Int)
			for i, x := range ats {
				if weights[i] >= p {
					t.Errorf("Weights(%d): %d", ats, weights)
				}
				y := at(append(same(power, 0), 1), x)
				sum.Add(sum, new(big.Int).Mul(whole(weights[i]), whole(y)))
			}
			if right := at(append(same(power, 0), 1), 0); rest(sum) != right {
				t.Errorf("Weights(%d): %d: power %d is %d at 0", ats, weights, power, rest(sum))
			}
		}
	}
}

func TestP8Wrong(t *testing.T) {
	wrong := [][]int{nil, {}, {1, 1}, {9, 9}, {1, 2, 3, 4, 5, 6, 7, 8, 9, 9}, {1, 2, 3, 4, 5, 6, 7, 8, 9, 10}, make([]int, 1000)}
	for n := 1; n <= most; n++ {
		for i := range n {
			for _, place := range badAts() {
				ats := slices.Clone([]int{9, 2, 7, 4, 5, 6, 3, 8, 1}[:n])
				ats[i] = place
				wrong = append(wrong, ats)
			}
			for j := range i {
				ats := slices.Clone([]int{9, 2, 7, 4, 5, 6, 3, 8, 1}[:n])
				ats[i] = ats[j]
				wrong = append(wrong, ats)
			}
		}
	}
	for _, ats := range wrong {
		if got, e := shamir.Weights(ats); e != api.ErrForm || got != nil {
			t.Errorf("Weights(%d): %d, %d", ats, got, e)
		}
	}
}

// roomy is a, with marked room behind it.
func roomy[T any](a []T, mark T) []T {
	return append(slices.Clone(a), mark, mark, mark, mark)[:len(a)]
}

func untouched[T comparable](list, a []T, mark T) bool {
	return slices.Equal(list[:len(a)+4], append(slices.Clone(a), mark, mark, mark, mark))
}

// scribble writes over all of a list, its spare room included.
func scribble(a []uint64) {
	a = a[:cap(a)]
	for i := range a {
		a[i] = 666
	}
}

// answers are what all of the package's calls tell, each list for itself.
func answers(few, n int, secret uint64, draws []uint64, l []api.Share, ats []int) [][]uint64 {
	dealt, e1 := shamir.Deal(secret, draws, n)
	e2 := shamir.Check(few, l)
	opened, e3 := shamir.Open(few, l)
	weights, e4 := shamir.Weights(ats)
	plain := []uint64{opened, uint64(e1), uint64(e2), uint64(e3), uint64(e4)}
	return [][]uint64{dealt, weights, plain}
}

func copies(lists [][]uint64) [][]uint64 {
	list := make([][]uint64, len(lists))
	for i, a := range lists {
		list[i] = slices.Clone(a)
	}
	return list
}

func equalLists(a, b [][]uint64) bool {
	return slices.EqualFunc(a, b, slices.Equal[[]uint64])
}

// checkMemory holds that nothing handed in is changed, that no answer shares
// memory with what was handed in or with another answer, and that what is
// asked again is answered alike.
func checkMemory(t *testing.T, few, n int, secret uint64, draws []uint64, l []api.Share, ats []int) {
	t.Helper()
	mark := api.Share{At: 71, Y: 72}
	rd, rl, ra := roomy(draws, 77), roomy(l, mark), roomy(ats, 78)
	handed := func() bool {
		return untouched(rd, draws, 77) && untouched(rl, l, mark) && untouched(ra, ats, 78)
	}
	got := answers(few, n, secret, rd, rl, ra)
	first := copies(got)
	if !handed() {
		t.Errorf("%d, %d, %v, %d: changed", few, draws, l, ats)
	}
	for i := range got {
		scribble(got[i])
		if !handed() || !equalLists(got[i+1:], first[i+1:]) {
			t.Errorf("%d, %d, %v, %d: answer %d shares memory", few, draws, l, ats, i)
		}
	}
	if again := answers(few, n, secret, rd, rl, ra); !equalLists(again, first) {
		t.Errorf("%d, %d, %v, %d: first %d, then %d", few, draws, l, ats, first, again)
	}
}

func TestP2Memory(t *testing.T) {
	for few := range api.MaxT + 2 {
		for _, draws := range drawsOf(few) {
			for n := range most + 2 {
				ats := []int{9, 2, 7, 4, 5, 6, 3, 8, 1, 0, 11}[:n]
				checkMemory(t, few, n, top, draws, sharesOf(draws, ats), ats)
				checkMemory(t, few, n, 5, draws, sharesOf(made(n, 8), ats), append(slices.Clone(ats), 1))
			}
		}
	}
}

func FuzzP1P2(f *testing.F) {
	f.Add(1, 3, uint64(5), []byte("\x01\x02\x03"), uint64(2), 0)
	f.Add(4, 9, uint64(top), []byte("\x09\x08\x07\x06\x05\x04\x03\x02\x01"), uint64(p), 0)
	f.Add(-1, 0, uint64(0), []byte{}, uint64(0), 1)
	f.Add(2, 4, uint64(p), []byte("\x01\x01"), uint64(top), math.MaxInt)
	f.Fuzz(func(t *testing.T, few, n int, secret uint64, places []byte, seed uint64, off int) {
		var ats []int
		for _, c := range places[:min(len(places), 24)] {
			ats = append(ats, int(c)+off)
		}
		draws := made(len(ats)/2, seed)
		checkMemory(t, few, n, secret, draws, sharesOf(append([]uint64{secret}, draws...), ats), ats)
		if _, e := shamir.Deal(secret, draws, n); e == api.OK {
			checkDeal(t, secret, draws, n)
		}
	})
}
