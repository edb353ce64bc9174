package solve_test

import (
	"math"
	"math/big"
	"slices"
	"testing"

	"sharecroft/api"
	"sharecroft/solve"
)

const (
	p        = api.P
	top      = 1<<64 - 1
	mostRows = api.MaxRows
	mostVars = api.MaxVars
)

func whole(a uint64) *big.Int { return new(big.Int).SetUint64(a) }

func rest(a *big.Int) uint64 {
	return new(big.Int).Mod(a, whole(p)).Uint64()
}

// sumOf is the rest of the sum of the products, reckoned by whole numbers, so
// that it shares no fault with the package.
func sumOf(a, b []uint64) uint64 {
	sum := new(big.Int)
	for i := range a {
		sum.Add(sum, new(big.Int).Mul(whole(a[i]), whole(b[i])))
	}
	return rest(sum)
}

// minus is the rest of a times b, less c times d.
func minus(a, b, c, d uint64) uint64 {
	left := new(big.Int).Mul(whole(a), whole(b))
	return rest(left.Sub(left, new(big.Int).Mul(whole(c), whole(d))))
}

// draws look as if drawn; each seed has its own.
type draws uint64

func (d *draws) next() uint64 {
	*d = *d*6364136223846793005 + 1442695040888963407
	return uint64(*d ^ *d>>29)
}

// unlike is a number whose rest isn't 0.
func (d *draws) unlike() uint64 {
	for {
		if x := d.next(); x%p != 0 {
			return x
		}
	}
}

// stairs has, for each column of own, a row of its own that begins there; the
// other columns are sums of those ahead, and the rows after have noughts.
func stairs(rows, vars int, own []int, d *draws) [][]uint64 {
	list := make([][]uint64, rows)
	for i := range list {
		list[i] = make([]uint64, vars+1)
		if i < len(own) {
			list[i][own[i]] = d.unlike()
			for j := own[i] + 1; j < vars; j++ {
				list[i][j] = d.next()
			}
		}
	}
	return list
}

// mix puts in place of each row a sum of rows that can be undone: first each
// takes of those after it, then each of those ahead.
func mix(rows [][]uint64, d *draws) {
	for i := range rows {
		for j := i + 1; j < len(rows); j++ {
			addTo(rows[i], rows[j], d.next())
		}
	}
	for i := len(rows) - 1; i >= 0; i-- {
		for j := range i {
			addTo(rows[i], rows[j], d.next())
		}
	}
}

func addTo(row, other []uint64, by uint64) {
	for i := range row {
		row[i] = sumOf([]uint64{row[i], other[i]}, []uint64{1, by})
	}
}

// loose puts other numbers of the same rest in some places.
func loose(rows [][]uint64, d *draws) {
	for _, row := range rows {
		for i, x := range row {
			if more := d.next(); more%3 == 0 {
				row[i] = x%p + more/p%(1<<32)*p
			}
		}
	}
}

// system is equations of which it is known which columns are no sums of those
// ahead (own), and which values are to be told.
type system struct {
	rows   [][]uint64
	own    []int
	values []uint64
}

func madeSystem(rows, vars, rank int, d *draws) system {
	columns := make([]int, vars)
	for i := range columns {
		columns[i] = i
		j := int(d.next() % uint64(i+1))
		columns[i], columns[j] = columns[j], columns[i]
	}
	own := slices.Clone(columns[:rank])
	slices.Sort(own)
	s := system{stairs(rows, vars, own, d), own, make([]uint64, vars)}
	for _, column := range own {
		s.values[column] = d.next() % p
	}
	for _, row := range s.rows {
		row[vars] = sumOf(row[:vars], s.values)
	}
	return s
}

func TestP6Known(t *testing.T) {
	d := draws(1)
	for rows := range mostRows + 1 {
		for vars := 1; vars <= mostVars; vars++ {
			for _, rank := range []int{0, 1, min(rows, vars) / 2, min(rows, vars) - 1, min(rows, vars)} {
				if rank >= 0 && rank <= min(rows, vars) {
					checkKnown(t, rows, vars, rank, &d)
				}
			}
		}
	}
}

func checkKnown(t *testing.T, rows, vars, rank int, d *draws) {
	t.Helper()
	s := madeSystem(rows, vars, rank, d)
	spoiled := slices.Clone(s.rows)
	for i, row := range s.rows {
		spoiled[i] = slices.Clone(row)
	}
	mix(s.rows, d)
	loose(s.rows, d)
	if e := solve.Check(s.rows, vars); e != api.OK {
		t.Errorf("%d rows, %d variables: %d", rows, vars, e)
	}
	if n, e := solve.Rank(s.rows, vars); e != api.OK || n != rank {
		t.Errorf("%d rows, %d variables: rank %d, %d, not %d", rows, vars, n, e, rank)
	}
	if v, e := solve.Solve(s.rows, vars); e != api.OK || !slices.Equal(v, s.values) {
		t.Errorf("%d rows, %d variables, own %d: %d, %d, not %d", rows, vars, s.own, v, e, s.values)
	}
	if rank == rows {
		return
	}
	// A row without a variable that asks for something can't be right.
	spoiled[rank+int(d.next()%uint64(rows-rank))][vars] = d.unlike()
	mix(spoiled, d)
	loose(spoiled, d)
	if v, e := solve.Solve(spoiled, vars); e != api.ErrNone || v != nil {
		t.Errorf("%d rows, %d variables, spoiled: %d, %d", rows, vars, v, e)
	}
	if n, e := solve.Rank(spoiled, vars); e != api.OK || n != rank {
		t.Errorf("%d rows, %d variables, spoiled: rank %d, %d, not %d", rows, vars, n, e, rank)
	}
}

func isZero(x uint64) bool { return x%p == 0 }

// rightForTwo tells the rank, the values and the error of two equations for
// two variables, case by case.
func rightForTwo(a, b []uint64) (int, []uint64, api.Errno) {
	all := minus(a[0], b[1], a[1], b[0])
	first := minus(a[0], b[2], a[2], b[0])
	second := minus(a[1], b[2], a[2], b[1])
	divided := func(x, by uint64) uint64 {
		inverse := new(big.Int).ModInverse(whole(by), whole(p))
		return rest(inverse.Mul(inverse, whole(x)))
	}
	switch {
	case all != 0:
		return 2, []uint64{divided(minus(a[2], b[1], a[1], b[2]), all), divided(first, all)}, api.OK
	case isZero(a[0]) && isZero(b[0]) && isZero(a[1]) && isZero(b[1]):
		if isZero(a[2]) && isZero(b[2]) {
			return 0, []uint64{0, 0}, api.OK
		}
		return 0, nil, api.ErrNone
	case first != 0 || second != 0:
		return 1, nil, api.ErrNone
	case !isZero(a[0]):
		return 1, []uint64{divided(a[2], a[0]), 0}, api.OK
	case !isZero(b[0]):
		return 1, []uint64{divided(b[2], b[0]), 0}, api.OK
	case !isZero(a[1]):
		return 1, []uint64{0, divided(a[2], a[1])}, api.OK
	}
	return 1, []uint64{0, divided(b[2], b[1])}, api.OK
}

func TestP6TwoByTwo(t *testing.T) {
	numbers := []uint64{0, 1, 2, p - 1, p, top}
	var rows [][]uint64
	for _, x := range numbers {
		for _, y := range numbers {
			for _, z := range numbers {
				rows = append(rows, []uint64{x, y, z})
			}
		}
	}
	for _, a := range rows {
		for _, b := range rows {
			rank, values, fault := rightForTwo(a, b)
			if n, e := solve.Rank([][]uint64{a, b}, 2); e != api.OK || n != rank {
				t.Errorf("Rank(%d, %d): %d, %d, not %d", a, b, n, e, rank)
			}
			if v, e := solve.Solve([][]uint64{a, b}, 2); e != fault || !slices.Equal(v, values) {
				t.Errorf("Solve(%d, %d): %d, %d, not %d, %d", a, b, v, e, values, fault)
			}
		}
	}
}

func TestP6Examples(t *testing.T) {
	for _, c := range []struct {
		rows   [][]uint64
		vars   int
		rank   int
		values []uint64
		fault  api.Errno
	}{
		{[][]uint64{{1, 1, 5}, {1, p - 1, 1}}, 2, 2, []uint64{3, 2}, api.OK},
		{nil, 1, 0, []uint64{0}, api.OK},
		{[][]uint64{}, 3, 0, []uint64{0, 0, 0}, api.OK},
		{[][]uint64{{0, 0}}, 1, 0, []uint64{0}, api.OK},
		{[][]uint64{{p, 2 * p}}, 1, 0, []uint64{0}, api.OK},
		{[][]uint64{{0, 1}}, 1, 0, nil, api.ErrNone},
		{[][]uint64{{p, top}}, 1, 0, nil, api.ErrNone},
		{[][]uint64{{2, 1}}, 1, 1, []uint64{1 << 30}, api.OK},
		{[][]uint64{{2, 6}, {2, 6}}, 1, 1, []uint64{3}, api.OK},
		{[][]uint64{{2, 6}, {2, 7}}, 1, 1, nil, api.ErrNone},
		{[][]uint64{{2, 6}, {2, 6 + p}, {p + 1, 3}}, 1, 1, []uint64{3}, api.OK},
		// a column of noughts is a sum of none
		{[][]uint64{{0, 3, 9}}, 2, 1, []uint64{0, 3}, api.OK},
		// the first of two columns that are alike has the value
		{[][]uint64{{0, 1, 1, 4}}, 3, 1, []uint64{0, 4, 0}, api.OK},
		// the second column is no sum, though the first row has nothing in it
		{[][]uint64{{0, 0, 1, 7}, {0, 1, 0, 6}, {1, 0, 0, 5}}, 3, 3, []uint64{5, 6, 7}, api.OK},
		// the third column is the sum of the two ahead, the fourth is none
		{[][]uint64{{1, 0, 1, 0, 2}, {0, 1, 1, 0, 3}, {0, 0, 0, 1, 4}}, 4, 3, []uint64{2, 3, 0, 4}, api.OK},
	} {
		if n, e := solve.Rank(c.rows, c.vars); e != api.OK || n != c.rank {
			t.Errorf("Rank(%d): %d, %d, not %d", c.rows, n, e, c.rank)
		}
		if v, e := solve.Solve(c.rows, c.vars); e != c.fault || !slices.Equal(v, c.values) {
			t.Errorf("Solve(%d): %d, %d, not %d, %d", c.rows, v, e, c.values, c.fault)
		}
	}
}

// refused holds that all three calls tell the fault, and nothing beside it.
func refused(t *testing.T, rows [][]uint64, vars int, fault api.Errno) {
	t.Helper()
	if e := solve.Check(rows, vars); e != fault {
		t.Errorf("Check of %d rows, %d variables: %d, not %d", len(rows), vars, e, fault)
	}
	if n, e := solve.Rank(rows, vars); e != fault || n != 0 {
		t.Errorf("Rank of %d rows, %d variables: %d, %d, not %d", len(rows), vars, n, e, fault)
	}
	if v, e := solve.Solve(rows, vars); e != fault || v != nil {
		t.Errorf("Solve of %d rows, %d variables: %d, %d, not %d", len(rows), vars, v, e, fault)
	}
}

// blank is so many rows of so many ones.
func blank(rows, width int) [][]uint64 {
	list := make([][]uint64, rows)
	for i := range list {
		list[i] = slices.Repeat([]uint64{1}, width)
	}
	return list
}

func TestP6WrongCounts(t *testing.T) {
	for _, vars := range []int{math.MinInt, -2, -1, 0, mostVars + 1, mostVars + 2, 1 << 32, math.MaxInt} {
		refused(t, nil, vars, api.ErrArg)
		refused(t, blank(1, 0), vars, api.ErrArg)
		refused(t, blank(mostRows+1, mostVars+2), vars, api.ErrArg)
		if vars >= -1 && vars < 100 {
			refused(t, blank(2, vars+1), vars, api.ErrArg)
		}
	}
	for _, vars := range []int{1, 2, mostVars} {
		for _, rows := range []int{mostRows + 1, mostRows + 2, 1000} {
			refused(t, blank(rows, vars+1), vars, api.ErrLarge)
			refused(t, make([][]uint64, rows), vars, api.ErrLarge)
		}
	}
}

func TestP6WrongRows(t *testing.T) {
	for _, vars := range []int{1, 2, 3, mostVars} {
		for _, rows := range []int{1, 2, mostRows} {
			for i := range rows {
				for _, width := range []int{0, 1, vars, vars + 2, 2 * (vars + 1), 100} {
					if width == vars+1 {
						continue
					}
					list := blank(rows, vars+1)
					list[i] = slices.Repeat([]uint64{1}, width)
					refused(t, list, vars, api.ErrForm)
				}
			}
		}
	}
}

func TestP6FormAheadOfNone(t *testing.T) {
	refused(t, [][]uint64{{0, 1}, {0}}, 1, api.ErrForm)
	refused(t, [][]uint64{{0, 1}, nil}, 1, api.ErrForm)
}

// handedIn is rows with marked room behind each of them, and behind the list.
func handedIn(rows [][]uint64) [][]uint64 {
	list := make([][]uint64, 0, len(rows)+2)
	for _, row := range rows {
		list = append(list, append(slices.Clone(row), 77, 78, 79)[:len(row)])
	}
	return append(list, []uint64{71}, []uint64{72})[:len(rows)]
}

// asHanded tells whether list is what handedIn made of rows, in the same
// places of memory.
func asHanded(list, rows [][]uint64, places []*uint64) bool {
	for i, row := range rows {
		same := append(slices.Clone(row), 77, 78, 79)
		if len(list[i]) != len(row) || &list[i][:1][0] != places[i] || !slices.Equal(list[i][:len(row)+3], same) {
			return false
		}
	}
	behind := list[:len(rows)+2][len(rows):]
	return slices.Equal(behind[0], []uint64{71}) && slices.Equal(behind[1], []uint64{72})
}

// checkMemory holds that nothing handed in is changed, that the answer shares
// no memory with it, and that what is asked again is answered alike.
func checkMemory(t *testing.T, rows [][]uint64, vars int) {
	t.Helper()
	list := handedIn(rows)
	var places []*uint64
	for _, row := range list {
		places = append(places, &row[:1][0])
	}
	e1 := solve.Check(list, vars)
	n, e2 := solve.Rank(list, vars)
	v, e3 := solve.Solve(list, vars)
	if !asHanded(list, rows, places) {
		t.Errorf("%d, %d: changed", rows, vars)
	}
	first := slices.Clone(v)
	v = v[:cap(v)]
	for i := range v {
		v[i] = 666
	}
	if !asHanded(list, rows, places) {
		t.Errorf("%d, %d: the answer shares memory", rows, vars)
	}
	f1 := solve.Check(list, vars)
	m, f2 := solve.Rank(list, vars)
	w, f3 := solve.Solve(list, vars)
	if e1 != f1 || e2 != f2 || e3 != f3 || n != m || !slices.Equal(w, first) {
		t.Errorf("%d, %d: first %d, then %d", rows, vars, first, w)
	}
}

func TestP2Memory(t *testing.T) {
	d := draws(2)
	for rows := range mostRows + 1 {
		for vars := 1; vars <= mostVars; vars++ {
			s := madeSystem(rows, vars, min(rows, vars)/2, &d)
			mix(s.rows, &d)
			loose(s.rows, &d)
			checkMemory(t, s.rows, vars)
		}
	}
	checkMemory(t, [][]uint64{{0, 0, 1, 7}, {0, 1, 0, 6}, {1, 0, 0, 5}}, 3)
	checkMemory(t, [][]uint64{{0, 1}, {1, 1}}, 1)
	checkMemory(t, blank(mostRows+1, 3), 2)
	checkMemory(t, blank(3, 3), 0)
	checkMemory(t, [][]uint64{{1, 2, 3}, {1}, nil}, 2)
}

func TestP2OneRowTwice(t *testing.T) {
	row := []uint64{2, 4, 6}
	if v, e := solve.Solve([][]uint64{row, row}, 2); e != api.OK || !slices.Equal(v, []uint64{3, 0}) {
		t.Error(v, e)
	}
	if !slices.Equal(row, []uint64{2, 4, 6}) {
		t.Error(row)
	}
}

// checkRight holds that the values told make all equations right, and that
// no more of them than the rank are other than 0.
func checkRight(t *testing.T, rows [][]uint64, vars int) {
	t.Helper()
	n, e := solve.Rank(rows, vars)
	v, fault := solve.Solve(rows, vars)
	if e != solve.Check(rows, vars) || e != api.OK && fault != e {
		t.Errorf("%d, %d: %d, %d", rows, vars, e, fault)
	}
	if fault != api.OK {
		if v != nil {
			t.Errorf("%d, %d: %d beside %d", rows, vars, v, fault)
		}
		return
	}
	some := 0
	for _, x := range v {
		if x != 0 {
			some++
		}
	}
	if len(v) != vars || some > n || n > min(len(rows), vars) {
		t.Errorf("%d, %d: %d of rank %d", rows, vars, v, n)
	}
	for _, row := range rows {
		if sumOf(row[:vars], v) != row[vars]%p {
			t.Errorf("%d, %d: %d isn't right", rows, vars, v)
		}
	}
}

func FuzzP1P2(f *testing.F) {
	f.Add([]byte{1, 1, 5, 1, 9, 1}, 2, 3)
	f.Add([]byte{0, 0, 0, 1}, 1, 2)
	f.Add([]byte{}, 0, 0)
	f.Add(make([]byte, 42), 1, 2)
	f.Fuzz(func(t *testing.T, s []byte, vars, width int) {
		width = min(max(width, 1), 30)
		numbers := []uint64{0, 1, 2, 3, p - 1, p - 2, p, p + 1, 1 << 31, top, top - 1}
		var rows [][]uint64
		for part := range slices.Chunk(s, width) {
			var row []uint64
			for _, c := range part {
				row = append(row, numbers[int(c)%len(numbers)])
			}
			rows = append(rows, row)
		}
		checkMemory(t, rows, vars)
		checkRight(t, rows, vars)
	})
}
