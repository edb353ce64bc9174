package hide_test

import (
	"math"
	"math/big"
	"math/bits"
	"slices"
	"testing"

	"sharecroft/api"
	"sharecroft/circuit"
	"sharecroft/engine"
	"sharecroft/hide"
	"sharecroft/shamir"
	"sharecroft/twine"
)

const (
	p    = api.P
	top  = 1<<64 - 1
	most = api.MaxParties
)

func whole(a uint64) *big.Int { return new(big.Int).SetUint64(a) }

func rest(a *big.Int) uint64 {
	return new(big.Int).Mod(a, whole(p)).Uint64()
}

func rests(a []uint64) []uint64 {
	list := make([]uint64, len(a))
	for i, x := range a {
		list[i] = x % p
	}
	return list
}

// made is a list of n numbers that looks as if drawn; each seed has its own.
func made(n int, seed uint64) []uint64 {
	list := make([]uint64, n)
	for i := range list {
		seed = seed*6364136223846793005 + 1442695040888963407
		list[i] = seed ^ seed>>29
	}
	return list
}

func same(n int, x uint64) []uint64 {
	return slices.Repeat([]uint64{x}, n)
}

// secrets are of all kinds: small, at the edge of P, beyond it.
func secrets() []uint64 {
	return []uint64{0, 1, 5, p - 1, p, p + 1, 2*p + 7, 1 << 32, top - 1, top}
}

// drawsOf are lists of n draws, some of which are 0 or rest 0.
func drawsOf(n int) [][]uint64 {
	return [][]uint64{same(n, 0), same(n, p), same(n, p-1), same(n, top), made(n, 1), made(n, 2)}
}

// needs are how many draws a dealing in two variables takes, counted out.
func needs() []int { return []int{0, 2, 5, 9, 14} }

// badTs are such as there may not be.
func badTs() []int {
	return []int{math.MinInt, -1 << 32, -3, -2, -1, api.MaxT + 1, most, 1 << 32, math.MaxInt}
}

// badParties are numbers that no party has; some would be one by their rest.
func badParties() []int {
	return []int{math.MinInt, -int(p), -1, 0, most + 1, 16, 256 + 1, int(p), int(p) + 1, 1<<32 + 1, math.MaxInt}
}

// orders are the parties' numbers in some orders, of which pieces are taken.
func orders() [][]int {
	return [][]int{
		{1, 2, 3, 4, 5, 6, 7, 8, 9},
		{9, 8, 7, 6, 5, 4, 3, 2, 1},
		{4, 9, 2, 7, 5, 1, 8, 3, 6},
	}
}

// choices are all lists of at most so many parties, none included, each in
// three orders.
func choices(count int) [][]int {
	var list [][]int
	for set := range uint(1) << most {
		if bits.OnesCount(set) > count {
			continue
		}
		for _, order := range orders() {
			var who []int
			for _, x := range order {
				if set>>(x-1)&1 == 1 {
					who = append(who, x)
				}
			}
			list = append(list, who)
		}
	}
	return list
}

// misformed are lists of which one is no party's number, or one is there twice.
func misformed() [][]int {
	list := [][]int{make([]int, 1000), {1, 2, 3, 4, 5, 6, 7, 8, 9, 10}, {1, 2, 3, 4, 5, 6, 7, 8, 9, 9}}
	for n := 1; n <= most; n++ {
		for i := range n {
			for _, x := range badParties() {
				who := slices.Clone(orders()[2][:n])
				who[i] = x
				list = append(list, who)
			}
			for j := range i {
				who := slices.Clone(orders()[2][:n])
				who[i] = who[j]
				list = append(list, who)
			}
		}
	}
	return list
}

// coef is the number that stands with a power in the product of 1 less x by k,
// for each k of who. The product is not multiplied out: the number is the sum,
// over all choices of so many of who, of the products of -1 by each, and it is
// taken in fractions, whose rest is taken last.
func coef(who []int, power int) *big.Rat {
	sum := new(big.Rat)
	for set := range uint(1) << len(who) {
		if bits.OnesCount(set) != power {
			continue
		}
		part := big.NewRat(1, 1)
		for i, k := range who {
			if set>>i&1 == 1 {
				part.Mul(part, big.NewRat(-1, int64(k)))
			}
		}
		sum.Add(sum, part)
	}
	return sum
}

// more is draw, and (to - from) times the fraction, by its rest.
func more(draw, from, to uint64, part *big.Rat) uint64 {
	by := new(big.Int).Sub(whole(to), whole(from))
	by.Mul(by, part.Num())
	by.Mul(by, new(big.Int).ModInverse(part.Denom(), whole(p)))
	return rest(by.Add(by, whole(draw)))
}

// shifted is what Shift is to tell, of what it takes.
func shifted(who []int, from, to uint64, draws []uint64) []uint64 {
	list := make([]uint64, len(draws))
	for i, x := range draws {
		list[i] = more(x, from, to, coef(who, i+1))
	}
	return list
}

// twined is what Twine is to tell, of what it takes: the powers of a draw are
// looked for by its number, one by one.
func twined(who []int, few int, from, to uint64, draws []uint64) []uint64 {
	list := make([]uint64, len(draws))
	for i := range few + 1 {
		for j := i; j <= few; j++ {
			// Ahead of A(i, i) come as many as there are in each row above.
			number := i*(few+1) - i*(i-1)/2 + j - i
			if number > 0 {
				part := new(big.Rat).Mul(coef(who, i), coef(who, j))
				list[number-1] = more(draws[number-1], from, to, part)
			}
		}
	}
	return list
}

func expectShift(t *testing.T, who []int, from, to uint64, draws, right []uint64, e api.Errno) {
	t.Helper()
	got, f := hide.Shift(who, from, to, draws)
	if f != e || !slices.Equal(got, right) || (f != api.OK && got != nil) {
		t.Errorf("Shift(%d, %d, %d, %d): %d, %d, not %d, %d", who, from, to, draws, got, f, right, e)
	}
}

func expectTwine(t *testing.T, who []int, few int, from, to uint64, draws, right []uint64, e api.Errno) {
	t.Helper()
	got, f := hide.Twine(who, few, from, to, draws)
	if f != e || !slices.Equal(got, right) || (f != api.OK && got != nil) {
		t.Errorf("Twine(%d, %d, %d, %d, %d): %d, %d, not %d, %d", who, few, from, to, draws, got, f, right, e)
	}
}

func TestP18Examples(t *testing.T) {
	expectShift(t, []int{2}, 5, 9, []uint64{1}, []uint64{p - 1}, api.OK)
	expectShift(t, []int{1}, 0, 1, []uint64{0}, []uint64{p - 1}, api.OK)
	expectShift(t, []int{9}, 0, 9, []uint64{top}, []uint64{2}, api.OK)
	// 2 times 1 - x and 1 - x/2 is 2 - 3x + x^2.
	expectShift(t, []int{1, 2}, 0, 2, []uint64{0, 0}, []uint64{p - 3, 1}, api.OK)
	expectShift(t, []int{2, 1}, 0, 2, []uint64{10, 10}, []uint64{7, 11}, api.OK)
	expectShift(t, []int{2, 1}, 2, 0, []uint64{10, 10}, []uint64{13, 9}, api.OK)
	// 24 times four of them is 24 - 50x + 35x^2 - 10x^3 + x^4.
	expectShift(t, []int{3, 1, 4, 2}, 1, 25, same(4, 100), []uint64{50, 135, 90, 101}, api.OK)
	// Draws beyond the last power are as they were.
	expectShift(t, []int{2}, 5, 9, []uint64{1, 7, p + 8, p}, []uint64{p - 1, 7, 8, 0}, api.OK)
	// Of 64 bits the rest is meant: top's is 3.
	expectShift(t, []int{1}, top, 5, []uint64{p + 1}, []uint64{p - 1}, api.OK)
	expectShift(t, []int{1}, 5, top, []uint64{top}, []uint64{5}, api.OK)
}

// Where nobody looks, no draw need be another.
func TestP18OfNobody(t *testing.T) {
	for n := range api.MaxT + 1 {
		for _, draws := range drawsOf(n) {
			expectShift(t, nil, 5, 9, draws, rests(draws), api.OK)
			expectShift(t, []int{}, top, 0, draws, rests(draws), api.OK)
		}
	}
	expectShift(t, nil, 5, 9, nil, nil, api.OK)
	expectShift(t, []int{}, 5, 9, []uint64{}, nil, api.OK)
}

func TestP18Shift(t *testing.T) {
	for seed, who := range choices(api.MaxT) {
		for n := len(who); n <= api.MaxT; n++ {
			for i, draws := range drawsOf(n) {
				from := secrets()[(seed+i)%len(secrets())]
				to := secrets()[(seed/3+n)%len(secrets())]
				expectShift(t, who, from, to, draws, shifted(who, from, to, draws), api.OK)
			}
		}
	}
}

func TestP18ShiftOfAllSecrets(t *testing.T) {
	for _, who := range [][]int{{7}, {3, 8}, {9, 5, 6}, {2, 9, 1, 7}} {
		for _, from := range secrets() {
			for _, to := range secrets() {
				draws := made(api.MaxT, from+to)
				expectShift(t, who, from, to, draws, shifted(who, from, to, draws), api.OK)
				if from%p == to%p {
					expectShift(t, who, from, to, draws, rests(draws), api.OK)
				}
			}
		}
	}
}

// What who are dealt is the same, what the others are dealt is not, and all
// together tell the other secret.
func TestP18LooksTheSame(t *testing.T) {
	for seed, who := range choices(api.MaxT) {
		from, to := made(2, uint64(seed))[0], made(2, uint64(seed))[1]
		for n := len(who); n <= api.MaxT; n++ {
			draws := made(n, uint64(seed+n))
			other, e := hide.Shift(who, from, to, draws)
			a, _ := shamir.Deal(from, draws, most)
			b, _ := shamir.Deal(to, other, most)
			if e != api.OK || len(other) != n || len(b) != most {
				t.Fatalf("Shift(%d, %d, %d, %d): %d, %d", who, from, to, draws, other, e)
			}
			var l []api.Share
			for i := range most {
				l = append(l, api.Share{At: i + 1, Y: b[i]})
				if (a[i] == b[i]) != slices.Contains(who, i+1) {
					t.Errorf("Shift(%d, %d, %d, %d): %d: party %d has %d, then %d", who, from, to, draws, other, i+1, a[i], b[i])
				}
			}
			if got, e := shamir.Open(n, l); e != api.OK || got != to%p {
				t.Errorf("Shift(%d, %d, %d, %d): %d tells %d, %d", who, from, to, draws, other, got, e)
			}
		}
	}
}

func TestP18ThereAndBack(t *testing.T) {
	for seed, who := range choices(api.MaxT) {
		draws := made(api.MaxT, uint64(seed))
		there, _ := hide.Shift(who, 5, top, draws)
		expectShift(t, who, top, 5, there, rests(draws), api.OK)
	}
}

// Two of five parties that look together see the same of another first input,
// as nothing that hangs on it is told; each other party does not.
func TestP18InTheEngine(t *testing.T) {
	c, _, e := circuit.Parse("input 2\ninput 1\nsub 0 0\nout 1\nout 2\n")
	if e != api.OK {
		t.Fatal(e)
	}
	for one := 1; one <= 5; one++ {
		for two := one + 1; two <= 5; two++ {
			draws := made(4, uint64(one*two))
			_, a, e := engine.Run(c, 5, 2, []uint64{7, 8}, draws)
			other, f := hide.Shift([]int{two, one}, 7, top, draws[:2])
			_, b, g := engine.Run(c, 5, 2, []uint64{top, 8}, append(other, draws[2:]...))
			if e != api.OK || f != api.OK || g != api.OK {
				t.Fatal(e, f, g)
			}
			for i := range 5 {
				looks := i+1 == one || i+1 == two
				if slices.Equal(a[i], b[i]) != looks {
					t.Errorf("%d and %d look: party %d sees %d, then %d", one, two, i+1, a[i], b[i])
				}
			}
		}
	}
}

func TestP18Form(t *testing.T) {
	for _, who := range misformed() {
		// However many draws there are: ErrForm is told ahead of ErrArg.
		for n := range api.MaxT + 3 {
			expectShift(t, who, 5, 9, made(n, 3), nil, api.ErrForm)
		}
		expectShift(t, who, 5, 5, made(1000, 3), nil, api.ErrForm)
	}
}

func TestP18Arg(t *testing.T) {
	for _, who := range choices(most) {
		for _, n := range []int{0, 1, 2, 3, 4, 5, 6, 8, 9, 10, 40, 1000} {
			if n > api.MaxT || n < len(who) {
				expectShift(t, who, 5, 9, same(n, 0), nil, api.ErrArg)
				expectShift(t, who, 5, 5, made(n, 4), nil, api.ErrArg)
			}
		}
	}
}

func TestP19Examples(t *testing.T) {
	// 4 times 1 - x/2 and 1 - y/2 is 4 - 2x - 2y + xy.
	expectTwine(t, []int{2}, 1, 5, 9, []uint64{3, 3}, []uint64{1, 4}, api.OK)
	expectTwine(t, []int{2}, 1, 9, 5, []uint64{3, 3}, []uint64{5, 2}, api.OK)
	expectTwine(t, []int{1}, 1, 0, 1, []uint64{0, p}, []uint64{p - 1, 1}, api.OK)
	// 4 times (2 - 3x + x^2)/2 and the same of y: -6, 2, 9, -3, 1.
	expectTwine(t, []int{2, 1}, 2, 1, 5, []uint64{10, 20, 30, 40, 50}, []uint64{4, 22, 39, 37, 51}, api.OK)
	expectTwine(t, []int{1}, 2, 0, 1, []uint64{10, 20, 30, 40, top}, []uint64{9, 20, 31, 40, 3}, api.OK)
	expectTwine(t, nil, 0, 5, 9, nil, nil, api.OK)
	expectTwine(t, []int{}, 0, top, 9, []uint64{}, nil, api.OK)
}

func TestP19OfNobody(t *testing.T) {
	for few, need := range needs() {
		for _, draws := range drawsOf(need) {
			expectTwine(t, nil, few, 5, 9, draws, rests(draws), api.OK)
			expectTwine(t, []int{}, few, top, 0, draws, rests(draws), api.OK)
		}
	}
}

func TestP19Twine(t *testing.T) {
	for seed, who := range choices(api.MaxT) {
		for few := len(who); few <= api.MaxT; few++ {
			for i, draws := range drawsOf(needs()[few])[seed%3 : seed%3+3] {
				from := secrets()[(seed+i)%len(secrets())]
				to := secrets()[(seed/3+few)%len(secrets())]
				expectTwine(t, who, few, from, to, draws, twined(who, few, from, to, draws), api.OK)
			}
		}
	}
}

func TestP19TwineOfAllSecrets(t *testing.T) {
	for _, who := range [][]int{{7}, {3, 8}, {9, 5, 6}, {2, 9, 1, 7}} {
		for _, from := range secrets() {
			for _, to := range secrets() {
				draws := made(needs()[api.MaxT], from+to)
				expectTwine(t, who, api.MaxT, from, to, draws, twined(who, api.MaxT, from, to, draws), api.OK)
				if from%p == to%p {
					expectTwine(t, who, api.MaxT, from, to, draws, rests(draws), api.OK)
				}
			}
		}
	}
}

// The rows of who are the same, those of the others are not, and all meet and
// are joined to the other secret.
func TestP19LooksTheSame(t *testing.T) {
	for seed, who := range choices(api.MaxT) {
		from, to := made(2, uint64(seed))[0], made(2, uint64(seed))[1]
		for few := len(who); few <= api.MaxT; few++ {
			draws := made(needs()[few], uint64(seed+few))
			other, e := hide.Twine(who, few, from, to, draws)
			a, _ := twine.Deal(from, few, draws, most)
			b, _ := twine.Deal(to, few, other, most)
			if e != api.OK || len(b) != most {
				t.Fatalf("Twine(%d, %d, %d, %d, %d): %d, %d", who, few, from, to, draws, other, e)
			}
			for i := range most {
				if slices.Equal(a[i].Coefs, b[i].Coefs) != slices.Contains(who, i+1) {
					t.Errorf("Twine(%d, %d, %d, %d, %d): party %d has %d, then %d", who, few, from, to, draws, i+1, a[i].Coefs, b[i].Coefs)
				}
			}
			if got, e := twine.Join(few, b); e != api.OK || got != to%p {
				t.Errorf("Twine(%d, %d, %d, %d, %d): %d tells %d, %d", who, few, from, to, draws, other, got, e)
			}
		}
	}
}

// The first t draws are those of the dealing that the rows tell at 0.
func TestP19BeginsAsShift(t *testing.T) {
	for seed, who := range choices(api.MaxT) {
		for few := len(who); few <= api.MaxT; few++ {
			draws := made(needs()[few], uint64(seed))
			got, e := hide.Twine(who, few, 5, top, draws)
			if e != api.OK {
				t.Fatal(e)
			}
			expectShift(t, who, 5, top, draws[:few], got[:few], api.OK)
			expectTwine(t, who, few, top, 5, got, rests(draws), api.OK)
		}
	}
}

func TestP19Form(t *testing.T) {
	for _, who := range misformed() {
		for few, need := range needs() {
			for _, n := range []int{0, need, need + 1, 1000} {
				expectTwine(t, who, few, 5, 9, made(n, 5), nil, api.ErrForm)
			}
		}
		for _, few := range badTs() {
			expectTwine(t, who, few, 5, 9, made(14, 5), nil, api.ErrForm)
		}
	}
}

func TestP19BadT(t *testing.T) {
	for _, who := range [][]int{nil, {}, {1}, {9, 2}, {1, 2, 3, 4}, {1, 2, 3, 4, 5}, orders()[2]} {
		for _, few := range badTs() {
			for n := range 60 {
				expectTwine(t, who, few, 5, 9, made(n, 6), nil, api.ErrArg)
			}
		}
	}
}

func TestP19Arg(t *testing.T) {
	for _, who := range choices(most) {
		for few, need := range needs() {
			if len(who) > few {
				expectTwine(t, who, few, 5, 9, made(need, 7), nil, api.ErrArg)
				expectTwine(t, who, few, 5, 5, same(need, 0), nil, api.ErrArg)
			}
		}
	}
	for few, need := range needs() {
		for _, n := range []int{0, 1, few, few + 1, need - 1, need + 1, need + 2, 2 * need, (few + 1) * (few + 1), 1000} {
			for count := range few + 1 {
				if n >= 0 && n != need {
					expectTwine(t, orders()[2][:count], few, 5, 9, made(n, 8), nil, api.ErrArg)
					expectTwine(t, orders()[2][:count], few, 5, 5, same(n, 0), nil, api.ErrArg)
				}
			}
		}
	}
}

// roomy is a, with marked room behind it.
func roomy[T any](a []T, mark T) []T {
	return append(slices.Clone(a), mark, mark, mark, mark)[:len(a)]
}

func untouched[T comparable](list, a []T, mark T) bool {
	return slices.Equal(list[:len(a)+4], append(slices.Clone(a), mark, mark, mark, mark))
}

// scribble writes over all of a list, its spare room included.
func scribble(a []uint64) {
	a = a[:cap(a)]
	for i := range a {
		a[i] = 666
	}
}

// checkMemory holds that nothing handed in is changed, that no answer shares
// memory with it or with the other answer, and that what is asked again is
// answered alike.
func checkMemory(t *testing.T, who []int, few int, from, to uint64, draws []uint64) {
	t.Helper()
	rw, rd := roomy(who, 77), roomy(draws, 78)
	handed := func() bool { return untouched(rw, who, 77) && untouched(rd, draws, 78) }
	one, e := hide.Shift(rw, from, to, rd)
	two, f := hide.Twine(rw, few, from, to, rd)
	rightOne, rightTwo := slices.Clone(one), slices.Clone(two)
	if !handed() {
		t.Errorf("%d, %d, %d: changed", who, few, draws)
	}
	scribble(one)
	if !handed() || !slices.Equal(two, rightTwo) {
		t.Errorf("%d, %d, %d: Shift's answer shares memory", who, few, draws)
	}
	scribble(two)
	if !handed() {
		t.Errorf("%d, %d, %d: Twine's answer shares memory", who, few, draws)
	}
	expectShift(t, rw, from, to, rd, rightOne, e)
	expectTwine(t, rw, few, from, to, rd, rightTwo, f)
}

func TestP2Memory(t *testing.T) {
	for few := -1; few <= api.MaxT+1; few++ {
		for n := range 16 {
			for count := range most + 2 {
				who := append(slices.Clone(orders()[2]), 0, 1)[:count]
				for _, draws := range drawsOf(n) {
					checkMemory(t, who, few, top, 5, draws)
				}
			}
		}
	}
}

// Nothing is seen of the calls that came before.
func TestP2NothingIsKept(t *testing.T) {
	for few, need := range needs() {
		who := orders()[2][:few]
		draws := made(need, 9)
		right := twined(who, few, 5, top, draws)
		hide.Twine(orders()[0][:api.MaxT-few], api.MaxT-few, 1, 2, made(needs()[api.MaxT-few], 10))
		hide.Shift(orders()[1][:few], 3, 4, made(few, 11))
		hide.Shift([]int{0}, 3, 4, nil)
		expectTwine(t, who, few, 5, top, draws, right, api.OK)
		expectShift(t, who, 5, top, draws[:few], right[:few], api.OK)
	}
}

func FuzzP1P2(f *testing.F) {
	f.Add([]byte("\x02"), 0, 1, uint64(5), uint64(9), 1, uint64(1))
	f.Add([]byte("\x04\x01"), 0, 2, uint64(top), uint64(p), 5, uint64(2))
	f.Add([]byte("\x09\x08\x07\x06"), 0, 4, uint64(0), uint64(1), 14, uint64(3))
	f.Add([]byte{}, 1, -1, uint64(0), uint64(0), 0, uint64(4))
	f.Add([]byte("\x01\x01"), math.MaxInt, 3, uint64(p), uint64(top), 9, uint64(5))
	f.Fuzz(func(t *testing.T, parties []byte, off, few int, from, to uint64, n int, seed uint64) {
		var who []int
		for _, c := range parties[:min(len(parties), 24)] {
			who = append(who, int(c)+off)
		}
		draws := made(min(max(n, 0), 64), seed)
		checkMemory(t, who, few, from, to, draws)
		if _, e := hide.Shift(who, from, to, draws); e == api.OK {
			expectShift(t, who, from, to, draws, shifted(who, from, to, draws), api.OK)
		}
		if _, e := hide.Twine(who, few, from, to, draws); e == api.OK {
			expectTwine(t, who, few, from, to, draws, twined(who, few, from, to, draws), api.OK)
		}
	})
}
