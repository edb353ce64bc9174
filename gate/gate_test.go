package gate_test

import (
	"math"
	"math/big"
	"slices"
	"testing"

	"sharecroft/api"
	"sharecroft/gate"
	"sharecroft/shamir"
)

const (
	p    = api.P
	top  = 1<<64 - 1
	most = api.MaxParties
)

func whole(a uint64) *big.Int { return new(big.Int).SetUint64(a) }

func rest(a *big.Int) uint64 {
	return new(big.Int).Mod(a, whole(p)).Uint64()
}

// sum, less and times reckon by whole numbers, so that they share no fault with
// the packages.
func sum(x, y uint64) uint64   { return rest(new(big.Int).Add(whole(x), whole(y))) }
func less(x, y uint64) uint64  { return rest(new(big.Int).Sub(whole(x), whole(y))) }
func times(x, y uint64) uint64 { return rest(new(big.Int).Mul(whole(x), whole(y))) }

// at is what the polynomial of these numbers tells at x, power by power.
func at(coefs []uint64, x int) uint64 {
	all, power := new(big.Int), big.NewInt(1)
	for _, y := range coefs {
		all.Add(all, new(big.Int).Mul(whole(y), power))
		power.Mul(power, big.NewInt(int64(x)))
	}
	return rest(all)
}

// made is a list of n numbers that looks as if drawn; each seed has its own.
func made(n int, seed uint64) []uint64 {
	list := make([]uint64, n)
	for i := range list {
		seed = seed*6364136223846793005 + 1442695040888963407
		list[i] = seed ^ seed>>29
	}
	return list
}

func same(n int, x uint64) []uint64 {
	return slices.Repeat([]uint64{x}, n)
}

// edges are numbers of all kinds: small, at the edge of P, beyond it.
func edges() []uint64 {
	return []uint64{0, 1, 5, p - 1, p, p + 1, 2*p + 7, 1 << 32, top - 1, top}
}

// listsOf are lists of n numbers, dealt or not.
func listsOf(n int) [][]uint64 {
	mixed := make([]uint64, n)
	for i := range mixed {
		mixed[i] = edges()[(i*7+n)%len(edges())]
	}
	return [][]uint64{same(n, 0), same(n, p), same(n, p-1), same(n, top), made(n, 1), made(n, 2), mixed}
}

// badTs are such as there may not be.
func badTs() []int {
	return []int{math.MinInt, -1 << 32, -2, -1, api.MaxT + 1, most, 1 << 32, math.MaxInt}
}

func equalLists(a, b [][]uint64) bool {
	return slices.EqualFunc(a, b, slices.Equal[[]uint64])
}

// expect holds one list against the right one; with an error there is none.
func expect(t *testing.T, what string, got []uint64, e api.Errno, right []uint64, f api.Errno) {
	t.Helper()
	if e != f || !slices.Equal(got, right) || f != api.OK && got != nil {
		t.Errorf("%s: %d, %d, not %d, %d", what, got, e, right, f)
	}
}

func expectMul(t *testing.T, few int, a, b, draws, right []uint64, dealt [][]uint64, f api.Errno) {
	t.Helper()
	got, lists, e := gate.Mul(few, a, b, draws)
	if e != f || !slices.Equal(got, right) || !equalLists(lists, dealt) || f != api.OK && (got != nil || lists != nil) {
		t.Errorf("Mul(%d, %d, %d, %d): %d, %d, %d, not %d, %d, %d", few, a, b, draws, got, lists, e, right, dealt, f)
	}
}

// binary and unary are the calls of P12, each with what it does to a number.
type binary struct {
	name   string
	of     func(a, b []uint64) ([]uint64, api.Errno)
	reckon func(x, y uint64) uint64
}

type unary struct {
	name   string
	of     func(a []uint64, n uint64) ([]uint64, api.Errno)
	reckon func(x, y uint64) uint64
}

func binaries() []binary {
	return []binary{{"Add", gate.Add, sum}, {"Sub", gate.Sub, less}}
}

func unaries() []unary {
	return []unary{{"Scale", gate.Scale, times}, {"Plus", gate.Plus, sum}}
}

func pairwise(reckon func(x, y uint64) uint64, a, b []uint64) []uint64 {
	list := make([]uint64, len(a))
	for i := range a {
		list[i] = reckon(a[i], b[i])
	}
	return list
}

func TestP12Examples(t *testing.T) {
	a, b := []uint64{7, 9, 11}, []uint64{1, 2, p}
	got, e := gate.Add(a, b)
	expect(t, "Add", got, e, []uint64{8, 11, 11}, api.OK)
	got, e = gate.Add([]uint64{top}, []uint64{top})
	expect(t, "Add", got, e, []uint64{6}, api.OK)
	got, e = gate.Sub(a, b)
	expect(t, "Sub", got, e, []uint64{6, 7, 11}, api.OK)
	got, e = gate.Sub(b, a)
	expect(t, "Sub", got, e, []uint64{p - 6, p - 7, p - 11}, api.OK)
	got, e = gate.Scale(a, p+2)
	expect(t, "Scale", got, e, []uint64{14, 18, 22}, api.OK)
	got, e = gate.Scale(a, p)
	expect(t, "Scale", got, e, []uint64{0, 0, 0}, api.OK)
	got, e = gate.Plus(a, p-7)
	expect(t, "Plus", got, e, []uint64{0, 2, 4}, api.OK)
	got, e = gate.Plus([]uint64{p, top}, 0)
	expect(t, "Plus", got, e, []uint64{0, 3}, api.OK)
}

func TestP12(t *testing.T) {
	for n := 1; n <= most; n++ {
		for _, a := range listsOf(n) {
			for _, b := range listsOf(n) {
				for _, c := range binaries() {
					got, e := c.of(a, b)
					expect(t, c.name, got, e, pairwise(c.reckon, a, b), api.OK)
				}
			}
			for _, by := range edges() {
				for _, c := range unaries() {
					got, e := c.of(a, by)
					expect(t, c.name, got, e, pairwise(c.reckon, a, same(n, by)), api.OK)
				}
			}
		}
	}
}

// lengths are of lists, some of which are no wire's.
func lengths() []int {
	return []int{0, 1, 2, 3, 4, 5, 6, 7, 8, 9, 10, 11, 18, 256 + 3, 1000}
}

func wireLong(n int) bool { return n >= 1 && n <= most }

func TestP12Form(t *testing.T) {
	for _, n := range lengths() {
		for _, m := range lengths() {
			if n == m && wireLong(n) {
				continue
			}
			for _, c := range binaries() {
				got, e := c.of(made(n, 1), made(m, 2))
				expect(t, c.name, got, e, nil, api.ErrForm)
			}
		}
		for _, c := range unaries() {
			if !wireLong(n) {
				got, e := c.of(made(n, 1), 5)
				expect(t, c.name, got, e, nil, api.ErrForm)
			}
		}
	}
	for _, c := range binaries() {
		got, e := c.of(nil, nil)
		expect(t, c.name, got, e, nil, api.ErrForm)
	}
	for _, c := range unaries() {
		got, e := c.of(nil, 5)
		expect(t, c.name, got, e, nil, api.ErrForm)
	}
}

func deal(t *testing.T, secret uint64, draws []uint64, n int) []uint64 {
	t.Helper()
	numbers, e := shamir.Deal(secret, draws, n)
	if e != api.OK {
		t.Fatalf("Deal(%d, %d, %d): %d", secret, draws, n, e)
	}
	return numbers
}

// opens holds that the list is dealt with few draws, and of that secret.
func opens(t *testing.T, what string, few int, list []uint64, secret uint64) {
	t.Helper()
	var l []api.Share
	for i, y := range list {
		l = append(l, api.Share{At: i + 1, Y: y})
	}
	if got, e := shamir.Open(few, l); e != api.OK || got != secret {
		t.Errorf("%s, %d of %d: %d, %d, not %d", what, few, list, got, e, secret)
	}
}

func TestP12OfDealtSecrets(t *testing.T) {
	for few := range api.MaxT + 1 {
		for n := few + 1; n <= most; n++ {
			for i, x := range edges() {
				for j, y := range edges() {
					a := deal(t, x, made(few, uint64(i)), n)
					b := deal(t, y, made(few, uint64(j+100)), n)
					for _, c := range binaries() {
						got, _ := c.of(a, b)
						opens(t, c.name, few, got, c.reckon(x, y))
					}
					for _, c := range unaries() {
						got, _ := c.of(a, y)
						opens(t, c.name, few, got, c.reckon(x, y))
					}
				}
			}
		}
	}
}

func TestP13Examples(t *testing.T) {
	expectMul(t, 0, []uint64{3}, []uint64{4}, nil, []uint64{12}, [][]uint64{{12}}, api.OK)
	expectMul(t, 0, []uint64{p + 3}, []uint64{top}, []uint64{}, []uint64{9}, [][]uint64{{9}}, api.OK)
	// 5 drawn 2, times 3 drawn 1: products 28, 45, 66, with the weights 3, -3, 1.
	a, b := []uint64{7, 9, 11}, []uint64{4, 5, 6}
	expectMul(t, 1, a, b, []uint64{0, 0, 1}, []uint64{16, 17, 18},
		[][]uint64{{28, 45, 67}, {28, 45, 68}, {28, 45, 69}}, api.OK)
	expectMul(t, 1, a, b, []uint64{1, 10, 100}, []uint64{88, 161, 234},
		[][]uint64{{29, 55, 166}, {30, 65, 266}, {31, 75, 366}}, api.OK)
	// No draw: what is dealt is the product itself, to each party.
	expectMul(t, 0, a, b, nil, []uint64{15, 15, 15},
		[][]uint64{{28, 45, 66}, {28, 45, 66}, {28, 45, 66}}, api.OK)
}

// weight of party i of n: i is from 1 on, and Lagrange's products are, of all
// parties' numbers, binomials with a sign in turn.
func weight(n, i int) *big.Int {
	w := new(big.Int).Binomial(int64(n), int64(i))
	if i%2 == 0 {
		w.Neg(w)
	}
	return w
}

// product tells what Mul is to tell, party by party, by whole numbers.
func product(few int, a, b, draws []uint64) ([]uint64, [][]uint64) {
	n := len(a)
	numbers, dealt := make([]uint64, n), make([][]uint64, n)
	for to := range n {
		all := new(big.Int)
		for from := range n {
			coefs := []uint64{times(a[from], b[from])}
			for k := range few {
				coefs = append(coefs, draws[from*few+k])
			}
			y := at(coefs, to+1)
			dealt[to] = append(dealt[to], y)
			all.Add(all, new(big.Int).Mul(whole(y), weight(n, from+1)))
		}
		numbers[to] = rest(all)
	}
	return numbers, dealt
}

func TestP13(t *testing.T) {
	for few := range api.MaxT + 1 {
		for n := 2*few + 1; n <= most; n++ {
			for _, a := range listsOf(n) {
				for _, b := range listsOf(n) {
					for _, draws := range listsOf(n * few) {
						right, dealt := product(few, a, b, draws)
						expectMul(t, few, a, b, draws, right, dealt, api.OK)
					}
				}
			}
		}
	}
}

// Each draw is seen by itself: it is dealt by the party whose it is, and stands
// with its power.
func TestP13EachDraw(t *testing.T) {
	for few := range api.MaxT + 1 {
		for n := 2*few + 1; n <= most; n++ {
			for place := range n * few {
				draws := same(n*few, 0)
				draws[place] = 1
				right, dealt := product(few, same(n, 0), same(n, 0), draws)
				expectMul(t, few, same(n, 0), same(n, 0), draws, right, dealt, api.OK)
				from, power := place/few, place%few+1
				for to := range n {
					if y := dealt[to][from]; y != at(append(same(power, 0), 1), to+1) {
						t.Errorf("draw %d of %d parties: %d has %d", place, n, to+1, y)
					}
				}
			}
		}
	}
}

func TestP13OfDealtSecrets(t *testing.T) {
	for few := range api.MaxT + 1 {
		for n := 2*few + 1; n <= most; n++ {
			for i, x := range edges() {
				for j, y := range edges() {
					a := deal(t, x, made(few, uint64(i)), n)
					b := deal(t, y, made(few, uint64(j+100)), n)
					for _, draws := range listsOf(n * few) {
						got, dealt, e := gate.Mul(few, a, b, draws)
						if e != api.OK || len(dealt) != n {
							t.Fatalf("Mul(%d, %d, %d, %d): %d, %d", few, a, b, draws, dealt, e)
						}
						opens(t, "Mul", few, got, times(x, y))
					}
				}
			}
		}
	}
}

// A t that there may not be is told ahead of all else.
func TestP13Arg(t *testing.T) {
	for _, few := range badTs() {
		for _, n := range lengths() {
			for _, m := range lengths() {
				for _, count := range []int{0, 1, n, min(max(few, 0), 100) * n} {
					expectMul(t, few, made(n, 1), made(m, 2), made(count, 3), nil, nil, api.ErrArg)
				}
			}
		}
	}
}

// Lists that are no wires are told ahead of too few parties, and of draws.
func TestP13Form(t *testing.T) {
	for few := range api.MaxT + 1 {
		expectMul(t, few, nil, nil, nil, nil, nil, api.ErrForm)
		for _, n := range lengths() {
			for _, m := range lengths() {
				if n == m && wireLong(n) {
					continue
				}
				for _, count := range []int{0, 1, n * few, m * few} {
					expectMul(t, few, made(n, 1), made(m, 2), made(count, 3), nil, nil, api.ErrForm)
				}
			}
		}
	}
}

// Too few parties are told ahead of draws that are not as many as there must be.
func TestP13None(t *testing.T) {
	for few := range api.MaxT + 1 {
		for n := 1; n <= most; n++ {
			for _, count := range []int{0, 1, few, n, n * few, n*few + 1, (2*few + 1) * few} {
				if n < 2*few+1 {
					expectMul(t, few, made(n, 1), made(n, 2), made(count, 3), nil, nil, api.ErrNone)
				}
			}
		}
	}
}

func TestP13Draws(t *testing.T) {
	for few := range api.MaxT + 1 {
		for n := 2*few + 1; n <= most; n++ {
			for count := range most*api.MaxT + 5 {
				if count != n*few {
					expectMul(t, few, made(n, 1), made(n, 2), made(count, 3), nil, nil, api.ErrArg)
				}
			}
			expectMul(t, few, made(n, 1), made(n, 2), made(1000, 3), nil, nil, api.ErrArg)
		}
	}
}

// mark stands in the room behind what is handed in.
const mark = 777

func roomy(a []uint64) []uint64 {
	return append(slices.Clone(a), mark, mark, mark)[:len(a)]
}

func untouched(list, a []uint64) bool {
	return slices.Equal(list[:len(a)+3], append(slices.Clone(a), mark, mark, mark))
}

// answers are what all of the package's calls tell, each list for itself, and
// the errors; outer are the lists of lists.
func answers(few int, a, b, draws []uint64, by uint64) (lists, outer [][]uint64) {
	errs := make([]uint64, 5)
	keep := func(place int, list []uint64, e api.Errno) {
		lists, errs[place] = append(lists, list), uint64(e)
	}
	list, e := gate.Add(a, b)
	keep(0, list, e)
	list, e = gate.Sub(a, b)
	keep(1, list, e)
	list, e = gate.Scale(a, by)
	keep(2, list, e)
	list, e = gate.Plus(a, by)
	keep(3, list, e)
	list, outer, e = gate.Mul(few, a, b, draws)
	keep(4, list, e)
	return append(append(lists, outer...), errs), outer
}

func copies(lists [][]uint64) [][]uint64 {
	list := make([][]uint64, len(lists))
	for i, a := range lists {
		list[i] = slices.Clone(a)
	}
	return list
}

// scribble writes over all of a list, its spare room included.
func scribble(a []uint64) {
	a = a[:cap(a)]
	for i := range a {
		a[i] = 666
	}
}

// checkMemory holds that nothing handed in is changed, that no answer shares
// memory with it or with another list of the answers, spare room included, and
// that what is asked again is answered alike.
func checkMemory(t *testing.T, few int, a, b, draws []uint64, by uint64) {
	t.Helper()
	ra, rb, rd := roomy(a), roomy(b), roomy(draws)
	handed := func() bool { return untouched(ra, a) && untouched(rb, b) && untouched(rd, draws) }
	got, outer := answers(few, ra, rb, rd, by)
	first := copies(got)
	if !handed() {
		t.Errorf("%d, %d, %d, %d: changed", few, a, b, draws)
	}
	for i := range got {
		scribble(got[i])
		if !handed() || !equalLists(got[i+1:], first[i+1:]) {
			t.Errorf("%d, %d, %d, %d: answer %d shares memory", few, a, b, draws, i)
		}
	}
	for i := range outer[:cap(outer)] {
		outer[:cap(outer)][i] = nil
	}
	if again, _ := answers(few, ra, rb, rd, by); !equalLists(again, first) {
		t.Errorf("%d, %d, %d, %d: first %d, then %d", few, a, b, draws, first, again)
	}
}

func TestP2Memory(t *testing.T) {
	for few := -1; few <= api.MaxT+1; few++ {
		for n := range most + 2 {
			count := n * min(max(few, 0), api.MaxT)
			for i, a := range listsOf(n) {
				checkMemory(t, few, a, made(n, uint64(i)), made(count, 3), top)
				checkMemory(t, few, a, made(n+1, uint64(i)), made(count+1, 3), 5)
			}
		}
	}
}

// One list may be handed in for all of them, with itself as the room behind.
func TestP2OneListForAll(t *testing.T) {
	for n := 3; n <= most; n++ {
		list := made(n*2, 4)
		right, dealt := product(1, list[:n], list[n:], list[1:n+1])
		for range 2 {
			expectMul(t, 1, list[:n], list[n:], list[1:n+1], right, dealt, api.OK)
			got, e := gate.Add(list[:n], list[:n])
			expect(t, "Add", got, e, pairwise(times, list[:n], same(n, 2)), api.OK)
			got, e = gate.Sub(list[:n], list[:n])
			expect(t, "Sub", got, e, same(n, 0), api.OK)
		}
		if !slices.Equal(list, made(n*2, 4)) {
			t.Errorf("%d: changed", list)
		}
	}
}

func FuzzP1P2(f *testing.F) {
	f.Add(1, 3, 3, 3, uint64(1), uint64(2))
	f.Add(4, 9, 9, 36, uint64(2), uint64(top))
	f.Add(0, 1, 1, 0, uint64(3), uint64(p))
	f.Add(-1, 0, 0, 0, uint64(4), uint64(0))
	f.Add(math.MaxInt, 9, 10, 1, uint64(5), uint64(5))
	f.Fuzz(func(t *testing.T, few, n, m, count int, seed, by uint64) {
		n, m, count = min(max(n, 0), 20), min(max(m, 0), 20), min(max(count, 0), 60)
		a, b, draws := made(n, seed), made(m, seed+1), made(count, seed+2)
		checkMemory(t, few, a, b, draws, by)
		if _, _, e := gate.Mul(few, a, b, draws); e == api.OK {
			right, dealt := product(few, a, b, draws)
			expectMul(t, few, a, b, draws, right, dealt, api.OK)
		}
	})
}
