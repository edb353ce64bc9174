package twine_test

import (
	"math"
	"math/big"
	"slices"
	"testing"

	"sharecroft/api"
	"sharecroft/decode"
	"sharecroft/shamir"
	"sharecroft/twine"
)

const (
	p    = api.P
	top  = 1<<64 - 1
	most = api.MaxParties
)

func whole(a uint64) *big.Int { return new(big.Int).SetUint64(a) }

func rest(a *big.Int) uint64 {
	return new(big.Int).Mod(a, whole(p)).Uint64()
}

// at is what the polynomial of these numbers tells at x, power by power, by
// whole numbers, so that it shares no fault with the package.
func at(coefs []uint64, x int) uint64 {
	sum, power := new(big.Int), big.NewInt(1)
	for _, y := range coefs {
		sum.Add(sum, new(big.Int).Mul(whole(y), power))
		power.Mul(power, big.NewInt(int64(x)))
	}
	return rest(sum)
}

// made is a list of n numbers that looks as if drawn; each seed has its own.
func made(n int, seed uint64) []uint64 {
	list := make([]uint64, n)
	for i := range list {
		seed = seed*6364136223846793005 + 1442695040888963407
		list[i] = seed ^ seed>>29
	}
	return list
}

func same(n int, x uint64) []uint64 {
	return slices.Repeat([]uint64{x}, n)
}

// secrets are of all kinds: small, at the edge of P, beyond it.
func secrets() []uint64 {
	return []uint64{0, 1, 5, p - 1, p, p + 1, 2*p + 7, 1 << 32, top - 1, top}
}

// needs are how many draws there are with each t, counted out.
func needs() []int { return []int{0, 2, 5, 9, 14} }

// drawsOf are lists of draws with t, some of which are 0 or rest 0 at the end.
func drawsOf(few int) [][]uint64 {
	n := needs()[few]
	list := [][]uint64{same(n, 0), same(n, p), same(n, p-1), same(n, top), made(n, 1), made(n, 2)}
	if n > 0 {
		list = append(list, append(made(n-1, 3), p), append(same(n-1, 0), 1))
	}
	return list
}

// badTs are such as there may not be.
func badTs() []int {
	return []int{math.MinInt, -1 << 32, -3, -2, -1, api.MaxT + 1, most, 1 << 32, math.MaxInt}
}

// badAts are numbers that no party has; some would be one by their rest.
func badAts() []int {
	return []int{math.MinInt, -int(p), -1, 0, most + 1, 16, 256 + 1, int(p), int(p) + 1, 1<<32 + 1, math.MaxInt}
}

// orders are the parties' numbers in some orders, of which pieces are taken.
func orders() [][]int {
	return [][]int{
		{1, 2, 3, 4, 5, 6, 7, 8, 9},
		{9, 8, 7, 6, 5, 4, 3, 2, 1},
		{4, 9, 2, 7, 5, 1, 8, 3, 6},
	}
}

// choices are all lists of parties, none included, each in three orders.
func choices() [][]int {
	var list [][]int
	for set := range 1 << most {
		for _, order := range orders() {
			var ats []int
			for _, x := range order {
				if set>>(x-1)&1 == 1 {
					ats = append(ats, x)
				}
			}
			list = append(list, ats)
		}
	}
	return list
}

// grid has A(i, j) at place i, j: the draws are looked up by their number, one
// by one, and not laid in order.
func grid(secret uint64, few int, draws []uint64) [][]uint64 {
	table := make([][]uint64, few+1)
	for i := range table {
		table[i] = make([]uint64, few+1)
		for j := range table[i] {
			low, high := min(i, j), max(i, j)
			// Ahead of A(low, low) come as many as there are in each row above.
			number := low*(few+1) - low*(low-1)/2 + high - low
			if number == 0 {
				table[i][j] = secret
			} else {
				table[i][j] = draws[number-1]
			}
		}
	}
	return table
}

// rowsOf are the rows of any table, the same both ways round or not: number j
// of party x's row is the sum of A(i, j) times the i-th power of x.
func rowsOf(table [][]uint64, ats []int) []api.Row {
	list := make([]api.Row, len(ats))
	for k, x := range ats {
		list[k] = api.Row{At: x, Coefs: make([]uint64, len(table[0]))}
		for j := range table[0] {
			column := make([]uint64, len(table))
			for i := range table {
				column[i] = table[i][j]
			}
			list[k].Coefs[j] = at(column, x)
		}
	}
	return list
}

func cloneRows(l []api.Row) []api.Row {
	list := make([]api.Row, len(l))
	for i, row := range l {
		list[i] = api.Row{At: row.At, Coefs: slices.Clone(row.Coefs)}
	}
	return list
}

func equalRows(a, b []api.Row) bool {
	return slices.EqualFunc(a, b, func(x, y api.Row) bool {
		return x.At == y.At && slices.Equal(x.Coefs, y.Coefs)
	})
}

// apart holds each row against each other one, in the order in which the rows
// come, and sorts the pairs afterwards.
func apart(l []api.Row) [][2]int {
	var pairs [][2]int
	for _, a := range l {
		for _, b := range l {
			if a.At < b.At && at(a.Coefs, b.At) != at(b.Coefs, a.At) {
				pairs = append(pairs, [2]int{a.At, b.At})
			}
		}
	}
	slices.SortFunc(pairs, func(a, b [2]int) int {
		return (a[0]-b[0])*(most+1) + a[1] - b[1]
	})
	return pairs
}

// through is Lagrange's polynomial of the shares, as many numbers as shares.
func through(l []api.Share) []uint64 {
	sum := make([]uint64, len(l))
	for i, share := range l {
		part := []uint64{share.Y % p}
		for j, other := range l {
			if j != i {
				below := rest(big.NewInt(int64(share.At - other.At)))
				part = timesLine(part, uint64(other.At), new(big.Int).ModInverse(whole(below), whole(p)).Uint64())
			}
		}
		for k, x := range part {
			sum[k] = (sum[k] + x) % p
		}
	}
	return sum
}

// timesLine is a times (x - root) times by.
func timesLine(a []uint64, root, by uint64) []uint64 {
	list := make([]uint64, len(a)+1)
	for i, x := range a {
		list[i+1] = (list[i+1] + x*by) % p
		list[i] = (list[i] + x*by%p*(p-root)) % p
	}
	return list
}

// search makes the one F that the first t + 1 rows leave, power by power of y,
// and holds it to what it must be, pair by pair of its numbers and row by row:
// not as the package does it.
func search(few int, l []api.Row) (uint64, api.Errno) {
	table := make([][]uint64, few+1)
	for i := range table {
		table[i] = make([]uint64, few+1)
	}
	for j := range few + 1 {
		var shares []api.Share
		for _, row := range l[:few+1] {
			shares = append(shares, api.Share{At: row.At, Y: row.Coefs[j]})
		}
		for i, x := range through(shares) {
			table[i][j] = x
		}
	}
	var ats []int
	for _, row := range l {
		ats = append(ats, row.At)
	}
	for k, row := range rowsOf(table, ats) {
		for j, x := range row.Coefs {
			if x != l[k].Coefs[j]%p {
				return 0, api.ErrWrong
			}
		}
	}
	for i := range table {
		for j := range i {
			if table[i][j] != table[j][i] {
				return 0, api.ErrWrong
			}
		}
	}
	return table[0][0], api.OK
}

func expectDeal(t *testing.T, secret uint64, few int, draws []uint64, n int, right []api.Row, e api.Errno) {
	t.Helper()
	got, f := twine.Deal(secret, few, draws, n)
	if f != e || !equalRows(got, right) || (f != api.OK && got != nil) {
		t.Errorf("Deal(%d, %d, %d, %d): %v, %d, not %v, %d", secret, few, draws, n, got, f, right, e)
	}
}

func expectPairs(t *testing.T, l []api.Row, right [][2]int, e api.Errno) {
	t.Helper()
	got, f := twine.Pairs(l)
	if f != e || !slices.Equal(got, right) || (f != api.OK && got != nil) {
		t.Errorf("Pairs(%v): %d, %d, not %d, %d", l, got, f, right, e)
	}
}

func expectJoin(t *testing.T, few int, l []api.Row, right uint64, e api.Errno) {
	t.Helper()
	if got, f := twine.Join(few, l); f != e || got != right {
		t.Errorf("Join(%d, %v): %d, %d, not %d, %d", few, l, got, f, right, e)
	}
}

// held holds well-formed rows, as many as there must be, to apart and search.
func held(t *testing.T, few int, l []api.Row) {
	t.Helper()
	secret, e := search(few, l)
	expectJoin(t, few, l, secret, e)
	expectPairs(t, l, apart(l), api.OK)
}

func TestP10Need(t *testing.T) {
	for few, right := range needs() {
		if got, e := twine.Need(few); e != api.OK || got != right {
			t.Errorf("Need(%d): %d, %d, not %d", few, got, e, right)
		}
	}
	for _, few := range badTs() {
		if got, e := twine.Need(few); e != api.ErrArg || got != 0 {
			t.Errorf("Need(%d): %d, %d", few, got, e)
		}
	}
}

func TestP10DealExamples(t *testing.T) {
	expectDeal(t, 5, 0, nil, 1, []api.Row{{At: 1, Coefs: []uint64{5}}}, api.OK)
	expectDeal(t, top, 0, []uint64{}, 2, []api.Row{{At: 1, Coefs: []uint64{3}}, {At: 2, Coefs: []uint64{3}}}, api.OK)
	expectDeal(t, 5, 1, []uint64{2, 3}, 3, []api.Row{
		{At: 1, Coefs: []uint64{7, 5}}, {At: 2, Coefs: []uint64{9, 8}}, {At: 3, Coefs: []uint64{11, 11}},
	}, api.OK)
	expectDeal(t, 5+p, 1, []uint64{2 + 2*p, p - 1}, 2, []api.Row{
		{At: 1, Coefs: []uint64{7, 1}}, {At: 2, Coefs: []uint64{9, 0}},
	}, api.OK)
	expectDeal(t, 5, 2, []uint64{1, 10, 100, 1000, 10000}, 3, []api.Row{
		{At: 1, Coefs: []uint64{16, 1101, 11010}},
		{At: 2, Coefs: []uint64{47, 4201, 42010}},
		{At: 3, Coefs: []uint64{98, 9301, 93010}},
	}, api.OK)
	// Noughts at the end are numbers of the row, too.
	expectDeal(t, 0, 1, []uint64{0, p}, 2, []api.Row{{At: 1, Coefs: []uint64{0, 0}}, {At: 2, Coefs: []uint64{0, 0}}}, api.OK)
	expectDeal(t, 5, 2, same(5, 0), 3, []api.Row{
		{At: 1, Coefs: []uint64{5, 0, 0}}, {At: 2, Coefs: []uint64{5, 0, 0}}, {At: 3, Coefs: []uint64{5, 0, 0}},
	}, api.OK)
}

func TestP10Deal(t *testing.T) {
	for few := range api.MaxT + 1 {
		for n := few + 1; n <= most; n++ {
			for _, secret := range secrets() {
				for _, draws := range drawsOf(few) {
					expectDeal(t, secret, few, draws, n, rowsOf(grid(secret, few, draws), orders()[0][:n]), api.OK)
				}
			}
		}
	}
}

// Each draw alone, the others being 0, stands with its own two powers.
func TestP10DealOfEachDraw(t *testing.T) {
	for few := range api.MaxT + 1 {
		number := 0
		for i := range few + 1 {
			for j := i; j <= few; j++ {
				list := same(needs()[few]+1, 0)
				list[number] = 1
				number++
				rows := make([]api.Row, most)
				for k := range rows {
					rows[k] = api.Row{At: k + 1, Coefs: same(few+1, 0)}
					rows[k].Coefs[j] = at(append(same(i, 0), 1), k+1)
					rows[k].Coefs[i] = at(append(same(j, 0), 1), k+1)
				}
				expectDeal(t, list[0], few, list[1:], most, rows, api.OK)
			}
		}
	}
}

func TestP10DealOfBadT(t *testing.T) {
	for _, few := range badTs() {
		for count := range 30 {
			for n := -1; n <= most+1; n++ {
				expectDeal(t, 5, few, made(count, 4), n, nil, api.ErrArg)
			}
		}
	}
}

func TestP10DealOfBadCounts(t *testing.T) {
	for few, need := range needs() {
		for _, count := range []int{0, 1, few, few + 1, need - 1, need + 1, need + 2, 2 * need, (few + 1) * (few + 1), 1000} {
			for n := -1; count >= 0 && count != need && n <= most+1; n++ {
				expectDeal(t, 5, few, made(count, 5), n, nil, api.ErrArg)
				expectDeal(t, 5, few, same(count, 0), n, nil, api.ErrArg)
			}
		}
		for _, n := range []int{math.MinInt, -1 << 32, -few, -1, 0, few, most + 1, most + 2, 1<<32 + most, math.MaxInt} {
			expectDeal(t, 5, few, made(need, 6), n, nil, api.ErrArg)
		}
	}
}

func TestP11PairsExamples(t *testing.T) {
	expectPairs(t, nil, nil, api.OK)
	expectPairs(t, []api.Row{}, nil, api.OK)
	expectPairs(t, []api.Row{{At: 9, Coefs: []uint64{top}}}, nil, api.OK)
	l := []api.Row{{At: 3, Coefs: []uint64{11, 11}}, {At: 1, Coefs: []uint64{7, 5}}, {At: 2, Coefs: []uint64{9, 8}}}
	expectPairs(t, l, nil, api.OK)
	l[2].Coefs[0]++
	expectPairs(t, l, [][2]int{{1, 2}, {2, 3}}, api.OK)
	l[0].Coefs[1]++
	expectPairs(t, l, [][2]int{{1, 2}, {1, 3}, {2, 3}}, api.OK)
	// 2 at 3 is 10 + 24, 3 at 2 is 11 + 24 now: less 1 is one that it meets.
	l[0].Coefs[0]--
	expectPairs(t, l, [][2]int{{1, 2}}, api.OK)
}

// A number that is P greater is the same one.
func TestP11PairsOfGreatNumbers(t *testing.T) {
	expectPairs(t, []api.Row{{At: 1, Coefs: []uint64{7 + p, 5}}, {At: 2, Coefs: []uint64{9, 8 + 2*p}}}, nil, api.OK)
	expectPairs(t, []api.Row{{At: 1, Coefs: []uint64{3}}, {At: 2, Coefs: []uint64{top}}}, nil, api.OK)
	expectPairs(t, []api.Row{{At: 1, Coefs: []uint64{4}}, {At: 2, Coefs: []uint64{top}}}, [][2]int{{1, 2}}, api.OK)
	expectPairs(t, []api.Row{{At: 1, Coefs: []uint64{0, p}}, {At: 2, Coefs: []uint64{p}}}, nil, api.OK)
}

// Rows of other lengths are held against each other as well.
func TestP11PairsOfAllLengths(t *testing.T) {
	for seed, ats := range choices() {
		l := make([]api.Row, len(ats))
		for i, x := range ats {
			l[i] = api.Row{At: x, Coefs: made((seed+i*i)%5+1, uint64(seed+i))}
			if (seed+i)%3 > 0 {
				l[i].Coefs = append(same(1, 1), same((seed+i*i)%5, 0)...)
			}
		}
		expectPairs(t, l, apart(l), api.OK)
	}
	l := []api.Row{{At: 2, Coefs: []uint64{0, 0, 0, 0, 1}}, {At: 9, Coefs: []uint64{81 * 81}}, {At: 1, Coefs: []uint64{1}}, {At: 3, Coefs: []uint64{1, 40}}}
	expectPairs(t, l, [][2]int{{1, 3}, {1, 9}, {3, 9}}, api.OK)
}

func TestP11PairsOfDealings(t *testing.T) {
	for seed, ats := range choices() {
		for few := range api.MaxT + 1 {
			l := rowsOf(grid(top, few, made(needs()[few], uint64(seed))), ats)
			expectPairs(t, l, nil, api.OK)
			if len(ats) > 0 {
				l[seed%len(ats)].Coefs[seed%(few+1)]++
				expectPairs(t, l, apart(l), api.OK)
			}
		}
	}
}

// What was dealt to the parties meets wherever it can, and is joined from any
// t + 1 of them.
func TestP11JoinOfDeal(t *testing.T) {
	for few := range api.MaxT + 1 {
		for n := few + 1; n <= most; n++ {
			for _, secret := range secrets() {
				for _, draws := range drawsOf(few) {
					l, _ := twine.Deal(secret, few, draws, n)
					expectPairs(t, l, nil, api.OK)
					for ; len(l) > few; l = l[1:] {
						expectJoin(t, few, l, secret%p, api.OK)
					}
				}
			}
		}
	}
}

func TestP11JoinExamples(t *testing.T) {
	expectJoin(t, 0, []api.Row{{At: 9, Coefs: []uint64{top}}}, 3, api.OK)
	expectJoin(t, 0, []api.Row{{At: 9, Coefs: []uint64{5}}, {At: 1, Coefs: []uint64{5 + p}}}, 5, api.OK)
	expectJoin(t, 0, []api.Row{{At: 9, Coefs: []uint64{5}}, {At: 1, Coefs: []uint64{6}}}, 0, api.ErrWrong)
	expectJoin(t, 1, []api.Row{{At: 3, Coefs: []uint64{11, 11}}, {At: 2, Coefs: []uint64{9 + p, 8 + 2*p}}}, 5, api.OK)
	expectJoin(t, 1, []api.Row{{At: 3, Coefs: []uint64{11, 11}}, {At: 2, Coefs: []uint64{10, 8}}}, 0, api.ErrWrong)
	// What the rows tell at 0 fits, but the rows do not.
	expectJoin(t, 1, []api.Row{{At: 1, Coefs: []uint64{7, 5}}, {At: 2, Coefs: []uint64{9, 9}}}, 0, api.ErrWrong)
	// The second row is another one, but meets the first: of two rows there is
	// an F, with another secret.
	expectJoin(t, 1, []api.Row{{At: 1, Coefs: []uint64{7, 5}}, {At: 2, Coefs: []uint64{8, 9}}}, 6, api.OK)
	expectJoin(t, 1, []api.Row{{At: 1, Coefs: []uint64{7, 5}}, {At: 2, Coefs: []uint64{8, 9}}, {At: 3, Coefs: []uint64{11, 11}}}, 0, api.ErrWrong)
}

func TestP11JoinTellsTheSecret(t *testing.T) {
	for seed, ats := range choices() {
		for few := range min(api.MaxT+1, len(ats)) {
			for i, draws := range drawsOf(few) {
				secret := secrets()[(i+seed)%len(secrets())]
				expectJoin(t, few, rowsOf(grid(secret, few, draws), ats), secret%p, api.OK)
			}
		}
	}
}

// One number of one row is another one.
func TestP11JoinTellsAWrongRow(t *testing.T) {
	for seed, ats := range choices() {
		for few := range min(api.MaxT+1, len(ats)) {
			l := rowsOf(grid(5, few, made(needs()[few], uint64(seed))), ats)
			place, number := seed%len(ats), seed/3%(few+1)
			l[place].Coefs[number] += []uint64{1, p - 1, 1 << 30, p + 2}[seed%4]
			held(t, few, l)
			if len(ats) > few+1 {
				expectJoin(t, few, l, 0, api.ErrWrong)
			}
		}
	}
}

// A row that is changed by what is 0 at all other parties still meets them: as
// long as these are t, that is an F. One more of them, and it is none.
func TestP11JoinOfARowThatStillMeets(t *testing.T) {
	for _, order := range orders() {
		for few := range api.MaxT + 1 {
			l := rowsOf(grid(5, few, made(needs()[few], 7)), order[:few+1])
			more := []uint64{1}
			for _, row := range l[1:] {
				more = timesLine(more, uint64(row.At), 1)
			}
			for i, x := range more {
				l[0].Coefs[i] += x
			}
			secret, e := search(few, l)
			if e != api.OK || secret == 5 {
				t.Errorf("%v: %d, %d", l, secret, e)
			}
			held(t, few, l)
			further := rowsOf(grid(5, few, made(needs()[few], 7)), order[few+1:few+2])
			l = append(l, further...)
			expectJoin(t, few, l, 0, api.ErrWrong)
			expectPairs(t, l, apart(l), api.OK)
			slices.Reverse(l)
			expectJoin(t, few, l, 0, api.ErrWrong)
		}
	}
}

// A table that is not the same both ways round is none of a dealing, though
// what its rows tell at 0 are shares.
func TestP11JoinOfTwoSides(t *testing.T) {
	for _, order := range orders() {
		for few := 1; few <= api.MaxT; few++ {
			for n := few + 1; n <= most; n++ {
				for i := range few + 1 {
					for j := range i {
						table := grid(5, few, made(needs()[few], 8))
						table[i] = slices.Clone(table[i])
						table[i][j]++
						l := rowsOf(table, order[:n])
						expectJoin(t, few, l, 0, api.ErrWrong)
						held(t, few, l)
					}
				}
			}
		}
	}
}

// Rows that have more powers of x than t are none of a dealing with t, if there
// are rows enough to see it.
func TestP11JoinOfTooManyPowers(t *testing.T) {
	for _, order := range orders() {
		for few := range api.MaxT + 1 {
			for n := few + 2; n <= most; n++ {
				for j := range few + 1 {
					table := append(grid(5, few, made(needs()[few], 9)), same(few+1, 0))
					table[few+1][j] = 1
					l := rowsOf(table, order[:n])
					expectJoin(t, few, l, 0, api.ErrWrong)
					held(t, few, l)
				}
			}
		}
	}
}

// Of numbers as small as these, wrong rows often meet.
func TestP11AllSmallNumbers(t *testing.T) {
	for _, c := range []struct{ few, n, below int }{
		{0, 1, 5}, {0, 2, 5}, {0, 4, 3}, {1, 2, 6}, {1, 3, 4}, {1, 4, 3}, {2, 3, 3}, {2, 4, 2}, {3, 4, 2},
	} {
		count := 1
		for range c.n * (c.few + 1) {
			count *= c.below
		}
		// The odd step goes through all of a few, and a part of many, numbers.
		for code := 0; code < count; code += count/8000*2 + 1 {
			left := code
			l := make([]api.Row, c.n)
			for i := range l {
				l[i] = api.Row{At: orders()[(c.n+c.few)%3][i], Coefs: make([]uint64, c.few+1)}
				for j := range l[i].Coefs {
					l[i].Coefs[j] = uint64(left % c.below)
					left /= c.below
				}
			}
			held(t, c.few, l)
		}
	}
}

// misplaced are lists that aren't of different parties.
func misplaced(coefs []uint64) [][]api.Row {
	rows := func(ats []int) []api.Row {
		list := make([]api.Row, len(ats))
		for i, x := range ats {
			list[i] = api.Row{At: x, Coefs: slices.Clone(coefs)}
		}
		return list
	}
	list := [][]api.Row{rows(make([]int, 1000)), rows([]int{1, 2, 3, 4, 5, 6, 7, 8, 9, 10}), rows([]int{1, 2, 3, 4, 5, 6, 7, 8, 9, 9})}
	for n := 1; n <= most; n++ {
		for i := range n {
			for _, place := range badAts() {
				l := rows(orders()[2][:n])
				l[i].At = place
				list = append(list, l)
			}
			for j := range i {
				l := rows(orders()[2][:n])
				l[i].At = l[j].At
				list = append(list, l)
			}
		}
	}
	return list
}

// mislong are lists of which one row has so many numbers.
func mislong(coefs []uint64, count int) [][]api.Row {
	var list [][]api.Row
	for n := 1; n <= most; n++ {
		for i := range n {
			var l []api.Row
			for _, x := range orders()[2][:n] {
				l = append(l, api.Row{At: x, Coefs: slices.Clone(coefs)})
			}
			l[i].Coefs = same(count, 0)
			list = append(list, l)
		}
	}
	return list
}

func TestP11Form(t *testing.T) {
	for few := range api.MaxT + 1 {
		coefs := append([]uint64{5}, same(few, 0)...)
		lists := misplaced(coefs)
		for _, count := range []int{0, api.MaxT + 2, api.MaxT + 3, 9, 40, 41, 1000} {
			lists = append(lists, mislong(coefs, count)...)
		}
		lists = append(lists, []api.Row{{}}, []api.Row{{At: 1}}, []api.Row{{At: 1, Coefs: []uint64{}}})
		for _, l := range lists {
			expectPairs(t, l, nil, api.ErrForm)
			expectJoin(t, few, l, 0, api.ErrForm)
		}
	}
}

// Join asks of all rows t + 1 numbers, noughts at the end included; Pairs does
// not.
func TestP11JoinAsksForEachNumber(t *testing.T) {
	for few := range api.MaxT + 1 {
		coefs := append([]uint64{5}, same(few, 0)...)
		for count := 1; count <= api.MaxT+1; count++ {
			for _, l := range mislong(coefs, count) {
				expectPairs(t, l, apart(l), api.OK)
				if count != few+1 {
					expectJoin(t, few, l, 0, api.ErrForm)
				}
			}
		}
	}
}

func TestP11JoinArg(t *testing.T) {
	lists := append(misplaced([]uint64{5}), mislong([]uint64{5}, 0)...)
	lists = append(lists, nil, []api.Row{}, []api.Row{{}}, rowsOf(grid(5, 4, made(14, 10)), orders()[0]))
	for _, few := range badTs() {
		for _, l := range lists {
			expectJoin(t, few, l, 0, api.ErrArg)
		}
	}
}

// Too few rows are told ahead of what they tell.
func TestP11JoinNone(t *testing.T) {
	for few := range api.MaxT + 1 {
		expectJoin(t, few, nil, 0, api.ErrNone)
		expectJoin(t, few, []api.Row{}, 0, api.ErrNone)
		for n := range few + 1 {
			for seed, order := range orders() {
				good := rowsOf(grid(5, few, made(needs()[few], uint64(seed))), order[:n])
				expectJoin(t, few, good, 0, api.ErrNone)
				for i := range good {
					good[i].Coefs = made(few+1, uint64(i))
				}
				expectJoin(t, few, good, 0, api.ErrNone)
			}
		}
	}
}

// What the parties' rows tell at 0 is a dealing of the same secret: it is
// opened, and a wrong one found, by the packages above.
func TestP10RowsAreSharesAtZero(t *testing.T) {
	for few := range api.MaxT + 1 {
		for n := few + 1; n <= most; n++ {
			rows, _ := twine.Deal(top, few, made(needs()[few], 11), n)
			var l []api.Share
			for _, row := range rows {
				l = append(l, api.Share{At: row.At, Y: row.Coefs[0]})
			}
			if got, e := shamir.Open(few, l); e != api.OK || got != 3 {
				t.Errorf("%v: %d, %d", rows, got, e)
			}
			if n < few+3 {
				continue
			}
			l[1].Y++
			if got, bad, e := decode.Open(few, l); e != api.OK || got != 3 || !slices.Equal(bad, []int{2}) {
				t.Errorf("%v: %d, %d, %d", rows, got, bad, e)
			}
		}
	}
}

// mark stands in the room behind what is handed in.
const mark = 777

func roomy(a []uint64) []uint64 {
	return append(slices.Clone(a), mark, mark, mark)[:len(a)]
}

func untouched(list, a []uint64) bool {
	return slices.Equal(list[:len(a)+3], append(slices.Clone(a), mark, mark, mark))
}

func roomyRows(l []api.Row) []api.Row {
	list := make([]api.Row, len(l), len(l)+2)
	for i, row := range l {
		list[i] = api.Row{At: row.At, Coefs: roomy(row.Coefs)}
	}
	return append(list, api.Row{At: mark}, api.Row{At: mark})[:len(l)]
}

func untouchedRows(list, l []api.Row) bool {
	for i, row := range l {
		if list[i].At != row.At || !untouched(list[i].Coefs, row.Coefs) {
			return false
		}
	}
	return equalRows(list[len(l):len(l)+2], []api.Row{{At: mark}, {At: mark}})
}

// checkMemory holds that nothing handed in is changed, that no answer shares
// memory with it or with another list of the answers, spare room included, and
// that what is asked again is answered alike.
func checkMemory(t *testing.T, secret uint64, few, n int, draws []uint64, l []api.Row) {
	t.Helper()
	rd, rl := roomy(draws), roomyRows(l)
	handed := func() bool { return untouched(rd, draws) && untouchedRows(rl, l) }
	rows, e := twine.Deal(secret, few, rd, n)
	pairs, f := twine.Pairs(rl)
	joined, g := twine.Join(few, rl)
	rightRows, rightPairs := cloneRows(rows), slices.Clone(pairs)
	if !handed() {
		t.Errorf("%d, %d, %v: changed", few, draws, l)
	}
	for i, row := range rows {
		room := row.Coefs[:cap(row.Coefs)]
		for j := range room {
			room[j] = 666
		}
		if !handed() || !equalRows(rows[i+1:], rightRows[i+1:]) || !slices.Equal(pairs, rightPairs) {
			t.Errorf("%d, %d, %v: row %d shares memory", few, draws, l, i)
		}
	}
	for i := range rows[:cap(rows)] {
		rows[:cap(rows)][i] = api.Row{At: 666}
	}
	for i := range pairs[:cap(pairs)] {
		pairs[:cap(pairs)][i] = [2]int{666, 666}
	}
	if !handed() {
		t.Errorf("%d, %d, %v: an answer shares memory", few, draws, l)
	}
	expectDeal(t, secret, few, rd, n, rightRows, e)
	expectPairs(t, rl, rightPairs, f)
	expectJoin(t, few, rl, joined, g)
}

func TestP2Memory(t *testing.T) {
	for few := -1; few <= api.MaxT+1; few++ {
		inside := min(max(few, 0), api.MaxT)
		for n := range most + 2 {
			for _, draws := range drawsOf(inside) {
				good := rowsOf(grid(top, inside, draws), append(slices.Clone(orders()[2]), 0)[:n])
				checkMemory(t, top, few, n, draws, good)
				for i := range good {
					good[i].Coefs = made(inside+1, uint64(i))
				}
				checkMemory(t, 5, few, n, append(draws, 1), good)
			}
		}
	}
}

// Told rows are the caller's: what is done to them is not seen by a later call.
func TestP2NothingIsKept(t *testing.T) {
	for few := range api.MaxT + 1 {
		draws := made(needs()[few], 12)
		right := rowsOf(grid(5, few, draws), orders()[0])
		l, _ := twine.Deal(5, few, draws, most)
		l[0].Coefs[0]++
		expectJoin(t, few, l, 0, api.ErrWrong)
		twine.Deal(6, api.MaxT-few, made(needs()[api.MaxT-few], 13), most)
		expectDeal(t, 5, few, draws, most, right, api.OK)
		expectJoin(t, few, right, 5, api.OK)
	}
}

func FuzzP1P2(f *testing.F) {
	f.Add(uint64(5), 1, 3, []byte("\x01\x02\x03"), []byte("\x07\x05\x09\x08\x0b\x0b"), 2, uint64(1), 0)
	f.Add(uint64(top), 4, 9, []byte("\x09\x08\x07\x06\x05\x04\x03\x02\x01"), []byte("\x01\x05"), 5, uint64(p), 0)
	f.Add(uint64(0), -1, 0, []byte{}, []byte{}, 0, uint64(0), 1)
	f.Add(uint64(p), 2, 4, []byte("\x01\x01"), []byte("\x01"), 6, uint64(top), math.MaxInt)
	f.Fuzz(func(t *testing.T, secret uint64, few, n int, places, numbers []byte, wide int, by uint64, off int) {
		wide = min(max(wide, 0), 8)
		var l []api.Row
		for _, c := range places[:min(len(places), 24)] {
			row := api.Row{At: int(c) + off, Coefs: same(wide, 0)}
			for j := range row.Coefs[:min(wide, len(numbers))] {
				row.Coefs[j] = uint64(numbers[j]) * by
			}
			numbers = numbers[min(wide, len(numbers)):]
			l = append(l, row)
		}
		need, e := twine.Need(few)
		checkMemory(t, secret, few, n, made(need, by), l)
		if _, g := twine.Pairs(l); g == api.OK && e == api.OK && wide == few+1 && len(l) > few {
			held(t, few, l)
		}
	})
}
