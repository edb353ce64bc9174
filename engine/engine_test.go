package engine_test

import (
	"fmt"
	"math"
	"math/big"
	"slices"
	"testing"

	"sharecroft/api"
	"sharecroft/circuit"
	"sharecroft/engine"
)

const (
	p         = api.P
	top       = 1<<64 - 1
	most      = api.MaxParties
	mostGates = api.MaxGates
)

func whole(a uint64) *big.Int { return new(big.Int).SetUint64(a) }

func rest(a *big.Int) uint64 {
	return new(big.Int).Mod(a, whole(p)).Uint64()
}

// sum, less and times reckon by whole numbers, so that they share no fault with
// the packages.
func sum(x, y uint64) uint64   { return rest(new(big.Int).Add(whole(x), whole(y))) }
func less(x, y uint64) uint64  { return rest(new(big.Int).Sub(whole(x), whole(y))) }
func times(x, y uint64) uint64 { return rest(new(big.Int).Mul(whole(x), whole(y))) }

// at is what the polynomial of these numbers tells at x, power by power.
func at(coefs []uint64, x int) uint64 {
	all, power := new(big.Int), big.NewInt(1)
	for _, y := range coefs {
		all.Add(all, new(big.Int).Mul(whole(y), power))
		power.Mul(power, big.NewInt(int64(x)))
	}
	return rest(all)
}

// weight of party i of n: i is from 1 on, and Lagrange's products are, of all
// parties' numbers, binomials with a sign in turn.
func weight(n, i int) uint64 {
	w := new(big.Int).Binomial(int64(n), int64(i))
	if i%2 == 0 {
		w.Neg(w)
	}
	return rest(w)
}

// edges are numbers of all kinds: small, at the edge of P, beyond it.
func edges() []uint64 {
	return []uint64{0, 1, 5, p - 1, p, p + 1, 2*p + 7, 1 << 32, top - 1, top}
}

// ints are numbers that may be handed in as n or as t.
func ints() []int {
	return []int{math.MinInt, -1 << 32, -9, -2, -1, 0, 1, 2, 3, 4, 5, 6, 7, 8, 9, 10, 11, 256 + 3, 1<<32 + 3, 1<<62 + 1, math.MaxInt}
}

// drawn makes numbers that look as if drawn; each seed has its own.
type drawn struct{ seed uint64 }

func (d *drawn) number() uint64 {
	d.seed = d.seed*6364136223846793005 + 1442695040888963407
	return d.seed ^ d.seed>>29
}

func (d *drawn) below(n int) int { return int(d.number() % uint64(n)) }

func (d *drawn) numberOrEdge() uint64 {
	if d.below(2) == 0 {
		return d.number()
	}
	return edges()[d.below(len(edges()))]
}

func (d *drawn) list(n int) []uint64 {
	list := make([]uint64, n)
	for i := range list {
		list[i] = d.numberOrEdge()
	}
	return list
}

// gate is a right one for that wire, of n parties.
func (d *drawn) gate(wire, n int) api.Gate {
	kind := 1 + d.below(6)
	if wire == 0 {
		kind = 1 + d.below(2)
	}
	switch kind {
	case api.GInput:
		return api.Gate{Kind: kind, A: 1 + d.below(n)}
	case api.GConst:
		return api.Gate{Kind: kind, N: d.numberOrEdge()}
	case api.GScale:
		return api.Gate{Kind: kind, A: d.below(wire), N: d.numberOrEdge()}
	}
	return api.Gate{Kind: kind, A: d.below(wire), B: d.below(wire)}
}

// circuit is a right one of at most so many gates and Outs, of n parties.
func (d *drawn) circuit(gates, n int) api.Circuit {
	var c api.Circuit
	for wire := range 1 + d.below(gates) {
		c.Gates = append(c.Gates, d.gate(wire, n))
	}
	for range 1 + d.below(gates) {
		c.Outs = append(c.Outs, d.below(len(c.Gates)))
	}
	return c
}

// setting is how many parties there are, and how many may look together.
type setting struct{ n, few int }

// settings are all that there may be.
func settings() []setting {
	var list []setting
	for few := range 5 {
		for n := 2*few + 1; n <= 9; n++ {
			list = append(list, setting{n, few})
		}
	}
	return list
}

// oneOfEach has a gate of each kind; its inputs are of parties 1 and who.
func oneOfEach(who int) api.Circuit {
	return api.Circuit{
		Gates: []api.Gate{
			{Kind: api.GInput, A: who},
			{Kind: api.GConst, N: 7},
			{Kind: api.GAdd, A: 0, B: 1},
			{Kind: api.GSub, A: 1, B: 0},
			{Kind: api.GMul, A: 2, B: 3},
			{Kind: api.GScale, A: 4, N: p + 2},
			{Kind: api.GInput, A: 1},
		},
		Outs: []int{6, 5, 4, 3, 2, 1, 0, 5},
	}
}

// alike has n gates of one kind behind an input of party 1.
func alike(g api.Gate, n int) api.Circuit {
	gates := append([]api.Gate{{Kind: api.GInput, A: 1}}, slices.Repeat([]api.Gate{g}, n)...)
	return api.Circuit{Gates: gates, Outs: []int{n}}
}

func count(c api.Circuit, kind int) int {
	n := 0
	for _, g := range c.Gates {
		if g.Kind == kind {
			n++
		}
	}
	return n
}

// needed is what Need is to tell, the circuit being checked by its own package.
func needed(c api.Circuit, n, few int) (int, api.Errno) {
	if e := circuit.Check(c); e != api.OK {
		return 0, e
	}
	if !slices.Contains(settings(), setting{n, few}) {
		return 0, api.ErrArg
	}
	for _, g := range c.Gates {
		if g.Kind == api.GInput && g.A > n {
			return 0, api.ErrArg
		}
	}
	return few*count(c, api.GInput) + n*few*count(c, api.GMul), api.OK
}

// world tells what a run of a right circuit is to be, not by the parties'
// numbers but by each wire's polynomial, of which they are.
type world struct {
	n, few    int
	in, draws []uint64
	polys     [][]uint64
	seen      [][]uint64
}

func (w *world) draw(n int) []uint64 {
	list := slices.Clone(w.draws[:n])
	w.draws = w.draws[n:]
	return list
}

func (w *world) see(to int, y uint64) { w.seen[to-1] = append(w.seen[to-1], y) }

func (w *world) reckon(g api.Gate) []uint64 {
	both := func(of func(x, y uint64) uint64, a, b []uint64) []uint64 {
		list := make([]uint64, w.few+1)
		for i := range list {
			list[i] = of(a[i], b[i])
		}
		return list
	}
	switch g.Kind {
	case api.GInput:
		coefs := append([]uint64{w.in[0]}, w.draw(w.few)...)
		w.in = w.in[1:]
		for to := 1; to <= w.n; to++ {
			w.see(to, at(coefs, to))
		}
		return coefs
	case api.GConst:
		return append([]uint64{g.N}, make([]uint64, w.few)...)
	case api.GAdd:
		return both(sum, w.polys[g.A], w.polys[g.B])
	case api.GSub:
		return both(less, w.polys[g.A], w.polys[g.B])
	case api.GScale:
		return both(times, w.polys[g.A], slices.Repeat([]uint64{g.N}, w.few+1))
	}
	return w.multiply(w.polys[g.A], w.polys[g.B])
}

// multiply adds up the polynomials that the parties deal, each times its weight.
func (w *world) multiply(a, b []uint64) []uint64 {
	all := make([]uint64, w.few+1)
	dealt := make([][]uint64, w.n)
	for from := range dealt {
		product := times(at(a, from+1), at(b, from+1))
		dealt[from] = append([]uint64{product}, w.draw(w.few)...)
		for i, y := range dealt[from] {
			all[i] = sum(all[i], times(y, weight(w.n, from+1)))
		}
	}
	for to := 1; to <= w.n; to++ {
		for _, coefs := range dealt {
			w.see(to, at(coefs, to))
		}
	}
	return all
}

func newWorld(n, few int, in, draws []uint64) *world {
	return &world{n: n, few: few, in: in, draws: draws, seen: make([][]uint64, n)}
}

// ran is what Run is to tell of what is right.
func ran(c api.Circuit, n, few int, in, draws []uint64) ([]uint64, [][]uint64) {
	w := newWorld(n, few, in, draws)
	for _, g := range c.Gates {
		w.polys = append(w.polys, w.reckon(g))
	}
	var told []uint64
	for _, x := range c.Outs {
		told = append(told, at(w.polys[x], 0))
		for to := 1; to <= n; to++ {
			for from := 1; from <= n; from++ {
				w.see(to, at(w.polys[x], from))
			}
		}
	}
	return told, w.seen
}

func equalLists(a, b [][]uint64) bool {
	return slices.EqualFunc(a, b, slices.Equal[[]uint64])
}

func expectNeed(t *testing.T, c api.Circuit, n, few, right int, f api.Errno) {
	t.Helper()
	if got, e := engine.Need(c, n, few); e != f || got != right {
		t.Errorf("Need(%d, %d, %d): %d, %d, not %d, %d", c, n, few, got, e, right, f)
	}
}

func expectRun(t *testing.T, c api.Circuit, n, few int, in, draws, right []uint64, seen [][]uint64, f api.Errno) {
	t.Helper()
	got, lists, e := engine.Run(c, n, few, in, draws)
	if e != f || !slices.Equal(got, right) || !equalLists(lists, seen) || f != api.OK && (got != nil || lists != nil) {
		t.Errorf("Run(%d, %d, %d, %d, %d): %d, %d, %d, not %d, %d, %d", c, n, few, in, draws, got, lists, e, right, seen, f)
	}
}

// expectRight holds a run of what is right against ran and against circuit.Run.
func expectRight(t *testing.T, c api.Circuit, n, few int, in, draws []uint64) {
	t.Helper()
	right, seen := ran(c, n, few, in, draws)
	expectRun(t, c, n, few, in, draws, right, seen, api.OK)
	if alone, e := circuit.Run(c, in); e != api.OK || !slices.Equal(alone, right) {
		t.Errorf("%d, %d: alone %d, %d, not %d", c, in, alone, e, right)
	}
}

// expectWrong holds that both calls tell Need's error, whatever is handed in
// beside it.
func expectWrong(t *testing.T, c api.Circuit, n, few int, f api.Errno) {
	t.Helper()
	expectNeed(t, c, n, few, 0, f)
	inputs := count(c, api.GInput)
	for _, in := range [][]uint64{nil, make([]uint64, inputs), make([]uint64, inputs+1)} {
		for _, draws := range [][]uint64{nil, make([]uint64, few&7*inputs), make([]uint64, 14)} {
			expectRun(t, c, n, few, in, draws, nil, nil, f)
		}
	}
}

func TestP16Examples(t *testing.T) {
	c := oneOfEach(1)
	expectNeed(t, c, 1, 0, 0, api.OK)
	expectNeed(t, c, 3, 1, 5, api.OK)  // 1 and 1 for the inputs, 3 for the product
	expectNeed(t, c, 9, 1, 11, api.OK) // 9 for the product
	expectNeed(t, c, 5, 2, 14, api.OK) // 2 and 2, 10
	expectNeed(t, c, 9, 4, 44, api.OK) // 4 and 4, 36
	expectNeed(t, alike(api.Gate{Kind: api.GInput, A: 9}, 29), 9, 4, 120, api.OK)
	expectNeed(t, alike(api.Gate{Kind: api.GMul}, 29), 9, 4, 4+29*36, api.OK)
	for _, g := range []api.Gate{{Kind: api.GAdd}, {Kind: api.GSub}, {Kind: api.GScale, N: 5}, {Kind: api.GConst, N: 5}} {
		expectNeed(t, alike(g, 29), 9, 4, 4, api.OK)
	}
	expectNeed(t, api.Circuit{Gates: []api.Gate{{Kind: api.GConst}}, Outs: []int{0}}, 9, 4, 0, api.OK)
}

// Every n with every t, of circuits with and without products and inputs.
func TestP16(t *testing.T) {
	circuits := []api.Circuit{oneOfEach(1), oneOfEach(9), alike(api.Gate{Kind: api.GMul}, 3), {Gates: []api.Gate{{Kind: api.GConst}}, Outs: []int{0}}}
	for seed := range uint64(30) {
		circuits = append(circuits, (&drawn{seed}).circuit(mostGates, 1+int(seed)%9))
	}
	right := 0
	for _, c := range circuits {
		for _, n := range ints() {
			for _, few := range ints() {
				need, f := needed(c, n, few)
				if f != api.OK {
					expectWrong(t, c, n, few, f)
					continue
				}
				expectNeed(t, c, n, few, need, api.OK)
				right++
			}
		}
	}
	if right < 400 {
		t.Errorf("only %d right ones", right)
	}
}

// An input of each party, with each number of parties.
func TestP16InputAboveN(t *testing.T) {
	for _, s := range settings() {
		for who := 1; who <= most; who++ {
			c := oneOfEach(who)
			last := alike(api.Gate{Kind: api.GConst}, 3)
			last.Gates[3] = api.Gate{Kind: api.GInput, A: who}
			if who > s.n {
				expectWrong(t, c, s.n, s.few, api.ErrArg)
				expectWrong(t, last, s.n, s.few, api.ErrArg)
				continue
			}
			expectNeed(t, c, s.n, s.few, 2*s.few+s.n*s.few, api.OK)
			expectNeed(t, last, s.n, s.few, 2*s.few, api.OK)
		}
	}
}

// The circuit's error is told ahead of all else.
func TestP16CheckAhead(t *testing.T) {
	many := alike(api.Gate{Kind: api.GInput, A: 9}, mostGates)
	outs := api.Circuit{Gates: []api.Gate{{Kind: api.GInput, A: 9}}, Outs: make([]int, mostGates+1)}
	for _, n := range ints() {
		for _, few := range ints() {
			expectWrong(t, many, n, few, api.ErrLarge)
			expectWrong(t, outs, n, few, api.ErrLarge)
			expectWrong(t, api.Circuit{}, n, few, api.ErrArg)
		}
	}
	wrong := []api.Circuit{
		{Gates: []api.Gate{{Kind: api.GConst}}},
		{Outs: []int{0}},
		{Gates: []api.Gate{{Kind: api.GConst}}, Outs: []int{1}},
		{Gates: []api.Gate{{Kind: api.GConst}}, Outs: []int{-1}},
		{Gates: []api.Gate{{Kind: 0}}, Outs: []int{0}},
		{Gates: []api.Gate{{Kind: 7}}, Outs: []int{0}},
		{Gates: []api.Gate{{Kind: api.GInput}}, Outs: []int{0}},
		{Gates: []api.Gate{{Kind: api.GInput, A: 10}}, Outs: []int{0}},
		{Gates: []api.Gate{{Kind: api.GMul}}, Outs: []int{0}},
		{Gates: []api.Gate{{Kind: api.GInput, A: 1}, {Kind: api.GAdd, B: math.MaxInt}}, Outs: []int{0}},
		{Gates: []api.Gate{{Kind: api.GInput, A: 1}, {Kind: api.GScale, A: math.MinInt}}, Outs: []int{0}},
		{Gates: []api.Gate{{Kind: api.GInput, A: 1, N: p}}, Outs: []int{0}},
	}
	for _, c := range wrong {
		for _, s := range settings() {
			expectWrong(t, c, s.n, s.few, api.ErrArg)
		}
	}
}

func TestP17Examples(t *testing.T) {
	// 5 drawn 2 times 3 drawn 1 is 16, 17, 18 with these draws; and 7.
	c := api.Circuit{
		Gates: []api.Gate{{Kind: api.GInput, A: 1}, {Kind: api.GInput, A: 2}, {Kind: api.GMul, B: 1}, {Kind: api.GConst, N: p + 7}, {Kind: api.GAdd, A: 2, B: 3}},
		Outs:  []int{4, 3, 0},
	}
	expectRun(t, c, 3, 1, []uint64{5, p + 3}, []uint64{2, 1, 0, 0, p + 1}, []uint64{22, 7, 5}, [][]uint64{
		{7, 4, 28, 45, 67, 23, 24, 25, 7, 7, 7, 7, 9, 11},
		{9, 5, 28, 45, 68, 23, 24, 25, 7, 7, 7, 7, 9, 11},
		{11, 6, 28, 45, 69, 23, 24, 25, 7, 7, 7, 7, 9, 11},
	}, api.OK)

	// One party alone sees all: 3 and 11; 7 less 3 is 4, by 10: 40, by 2: 80.
	one := oneOfEach(1)
	expectRun(t, one, 1, 0, []uint64{3, 11}, nil, []uint64{11, 80, 40, 4, 10, 7, 3, 80},
		[][]uint64{{3, 40, 11, 11, 80, 40, 4, 10, 7, 3, 80}}, api.OK)
	// Two parties, of whom none may look.
	expectRun(t, alike(api.Gate{Kind: api.GMul}, 1), 2, 0, []uint64{p - 3}, []uint64{}, []uint64{9},
		[][]uint64{{p - 3, 9, 9, 9, 9}, {p - 3, 9, 9, 9, 9}}, api.OK)
	// Only a constant: nobody is dealt anything.
	expectRun(t, api.Circuit{Gates: []api.Gate{{Kind: api.GConst, N: top}}, Outs: []int{0, 0}}, 3, 1, nil, nil, []uint64{3, 3},
		[][]uint64{{3, 3, 3, 3, 3, 3}, {3, 3, 3, 3, 3, 3}, {3, 3, 3, 3, 3, 3}}, api.OK)
	// Sums, differences and what is scaled: 5 drawn 2, 3 drawn 1.
	linear := api.Circuit{
		Gates: []api.Gate{{Kind: api.GInput, A: 3}, {Kind: api.GInput, A: 3}, {Kind: api.GAdd, B: 1}, {Kind: api.GSub, B: 1}, {Kind: api.GScale, A: 1, N: p + 10}},
		Outs:  []int{4, 3, 2},
	}
	outs := []uint64{40, 50, 60, 3, 4, 5, 11, 14, 17}
	expectRun(t, linear, 3, 1, []uint64{5, 3}, []uint64{2, 1}, []uint64{30, 2, 8},
		[][]uint64{append([]uint64{7, 4}, outs...), append([]uint64{9, 5}, outs...), append([]uint64{11, 6}, outs...)}, api.OK)
}

// Circuits of all kinds, with every n and t.
func TestP17(t *testing.T) {
	for i, s := range settings() {
		for seed := range uint64(40) {
			d := &drawn{seed + uint64(i)*1000}
			c := d.circuit(mostGates, s.n)
			need, e := needed(c, s.n, s.few)
			if e != api.OK {
				t.Fatalf("%d, %d: %d", c, s, e)
			}
			expectNeed(t, c, s.n, s.few, need, api.OK)
			in := d.list(count(c, api.GInput))
			for _, draws := range [][]uint64{d.list(need), make([]uint64, need), slices.Repeat([]uint64{top}, need)} {
				expectRight(t, c, s.n, s.few, in, draws)
			}
		}
	}
}

// Each draw is seen by itself, whichever gate it is for.
func TestP17EachDraw(t *testing.T) {
	c := oneOfEach(1)
	for _, s := range settings() {
		need, _ := needed(c, s.n, s.few)
		for place := range need {
			draws := make([]uint64, need)
			draws[place] = 1
			expectRight(t, c, s.n, s.few, []uint64{4, 9}, draws)
		}
	}
}

// The greatest circuits: products of products, inputs alone, as many Outs.
func TestP17Greatest(t *testing.T) {
	products, inputs := alike(api.Gate{Kind: api.GMul}, mostGates-1), alike(api.Gate{Kind: api.GInput, A: 1}, mostGates-1)
	products.Outs, inputs.Outs = nil, nil
	for i := range mostGates {
		if i > 0 {
			products.Gates[i] = api.Gate{Kind: api.GMul, A: i - 1, B: i / 2}
		}
		products.Outs = append(products.Outs, mostGates-1-i)
		inputs.Outs = append(inputs.Outs, i)
	}
	for _, s := range settings() {
		d := &drawn{uint64(s.n)}
		expectRight(t, products, s.n, s.few, []uint64{top - 1}, d.list(s.few+(mostGates-1)*s.n*s.few))
		expectRight(t, inputs, s.n, s.few, d.list(mostGates), d.list(mostGates*s.few))
	}
}

// Inputs that are not as many as there must be are told ahead of draws.
func TestP17Form(t *testing.T) {
	for i, s := range settings() {
		for seed := range uint64(10) {
			d := &drawn{seed + uint64(i)*1000}
			c := d.circuit(10, s.n)
			need, _ := needed(c, s.n, s.few)
			n := count(c, api.GInput)
			for _, m := range []int{0, n - 1, n + 1, n + 2, n + 256, 1000} {
				if m < 0 || m == n {
					continue
				}
				for _, draws := range []int{0, need, need + 1, m * s.few} {
					expectRun(t, c, s.n, s.few, d.list(m), d.list(draws), nil, nil, api.ErrForm)
				}
			}
		}
	}
}

func TestP17Draws(t *testing.T) {
	for i, s := range settings() {
		for seed := range uint64(10) {
			d := &drawn{seed + uint64(i)*1000}
			c := d.circuit(10, s.n)
			need, _ := needed(c, s.n, s.few)
			in := d.list(count(c, api.GInput))
			for _, m := range []int{0, need - 1, need + 1, need + s.few, need - s.few, need + 256, 5000} {
				if m >= 0 && m != need {
					expectRun(t, c, s.n, s.few, in, d.list(m), nil, nil, api.ErrArg)
				}
			}
		}
	}
}

// masked adds to each of some wires a further input of one party, and has only
// these sums in Outs, so that any outputs can come of any other inputs.
func masked(d *drawn, n, by int) api.Circuit {
	c := d.circuit(8, n)
	c.Outs = nil
	for range 1 + d.below(3) {
		wires := len(c.Gates)
		mask := api.Gate{Kind: api.GInput, A: by}
		c.Gates = append(c.Gates, mask, api.Gate{Kind: api.GAdd, A: d.below(wires), B: wires})
		c.Outs = append(c.Outs, wires+1)
	}
	return c
}

// vanishing is the polynomial that is 1 at 0 and 0 at each of who.
func vanishing(who []int) []uint64 {
	coefs := []uint64{1}
	for _, k := range who {
		by := new(big.Int).ModInverse(big.NewInt(int64(k)), whole(p)).Uint64()
		next := append(slices.Clone(coefs), 0)
		for i, y := range coefs {
			next[i+1] = less(next[i+1], times(y, by))
		}
		coefs = next
	}
	return coefs
}

// shifted are draws with which another secret tells those at whose numbers
// zeros is 0 the same.
func shifted(draws []uint64, from, to uint64, zeros []uint64) []uint64 {
	list := make([]uint64, len(draws))
	for i, y := range draws {
		list[i] = sum(y, times(less(to, from), zeros[i+1]))
	}
	return list
}

// otherInputs are, for a masked circuit, drawn anew where they aren't of who,
// but such that the outputs stay the same.
func otherInputs(d *drawn, c api.Circuit, who []int, in []uint64) []uint64 {
	other := slices.Clone(in)
	whose, _ := circuit.Inputs(c)
	for i, party := range whose {
		if !slices.Contains(who, party) {
			other[i] = d.numberOrEdge()
		}
	}
	for i := range c.Outs {
		right, _ := circuit.Run(c, in)
		got, _ := circuit.Run(c, other)
		mask := len(in) - len(c.Outs) + i
		other[mask] = sum(other[mask], less(right[i], got[i]))
	}
	return other
}

// otherDraws are those with which a run with the other inputs looks to who as
// the run with in and draws does: each thing that is dealt is dealt so that it
// tells who the same.
func otherDraws(c api.Circuit, n int, who []int, in, other, draws []uint64) []uint64 {
	few, zeros := len(who), vanishing(who)
	first, second := newWorld(n, few, in, draws), newWorld(n, few, other, nil)
	var all []uint64
	for _, g := range c.Gates {
		var more []uint64
		switch g.Kind {
		case api.GInput:
			more = shifted(first.draws[:few], first.in[0], second.in[0], zeros)
		case api.GMul:
			for from := range n {
				x := times(at(first.polys[g.A], from+1), at(first.polys[g.B], from+1))
				y := times(at(second.polys[g.A], from+1), at(second.polys[g.B], from+1))
				more = append(more, shifted(first.draws[from*few:(from+1)*few], x, y, zeros)...)
			}
		}
		second.draws = more
		first.polys = append(first.polys, first.reckon(g))
		second.polys = append(second.polys, second.reckon(g))
		all = append(all, more...)
	}
	return all
}

// What t parties see may be of any inputs of the others that give the same
// outputs: there are draws with which it is.
func TestP16NobodySees(t *testing.T) {
	changed := 0
	for i, s := range settings() {
		for seed := range uint64(40) {
			d := &drawn{seed + uint64(i)*1000}
			parties := make([]int, s.n)
			for k := range parties {
				other := d.below(k + 1)
				parties[k], parties[other] = parties[other], k+1
			}
			who := parties[:s.few]
			c := masked(d, s.n, parties[s.few])
			in := d.list(count(c, api.GInput))
			need, _ := needed(c, s.n, s.few)
			draws := d.list(need)
			other := otherInputs(d, c, who, in)
			told, seen, e := engine.Run(c, s.n, s.few, in, draws)
			again, looks, f := engine.Run(c, s.n, s.few, other, otherDraws(c, s.n, who, in, other, draws))
			if e != api.OK || f != api.OK || !slices.Equal(told, again) {
				t.Fatalf("%d, %d: %d, %d, then %d, %d", c, s, told, e, again, f)
			}
			for _, k := range who {
				if !slices.Equal(seen[k-1], looks[k-1]) {
					t.Errorf("%d, %d: %d sees %d, then %d", c, s, k, seen[k-1], looks[k-1])
				}
			}
			if s.few > 0 && !equalLists(seen, looks) {
				changed++
			}
		}
	}
	if changed < 300 {
		t.Errorf("only %d runs looked otherwise to the others", changed)
	}
}

// mark stands in the room behind what is handed in.
const mark = 777

func roomy[T any](a []T, marks ...T) []T {
	return append(slices.Clone(a), marks...)[:len(a)]
}

func untouched[T comparable](list, a []T, marks ...T) bool {
	return slices.Equal(list[:len(a)+len(marks)], append(slices.Clone(a), marks...))
}

// scribble writes over all of a list, its spare room included.
func scribble[T any](a []T, x T) {
	a = a[:cap(a)]
	for i := range a {
		a[i] = x
	}
}

func copies(lists [][]uint64) [][]uint64 {
	list := make([][]uint64, len(lists))
	for i, a := range lists {
		list[i] = slices.Clone(a)
	}
	return list
}

// checkMemory holds that nothing handed in is changed, that no answer shares
// memory with it or with another list of the answer, spare room included, and
// that what is asked again is answered alike.
func checkMemory(t *testing.T, c api.Circuit, n, few int, in, draws []uint64) {
	t.Helper()
	markGate := api.Gate{Kind: mark, A: mark, B: mark, N: mark}
	rc := api.Circuit{Gates: roomy(c.Gates, markGate, markGate), Outs: roomy(c.Outs, mark, mark)}
	rin, rdraws := roomy(in, mark, mark), roomy(draws, mark, mark)
	handed := func() bool {
		return untouched(rc.Gates, c.Gates, markGate, markGate) && untouched(rc.Outs, c.Outs, mark, mark) &&
			untouched(rin, in, mark, mark) && untouched(rdraws, draws, mark, mark)
	}
	what := fmt.Sprint(c, n, few, in, draws)
	var firsts [2]string
	for i := range firsts {
		need, e := engine.Need(rc, n, few)
		told, seen, f := engine.Run(rc, n, few, rin, rdraws)
		firsts[i] = fmt.Sprint(need, e, told, seen, f)
		lists := append([][]uint64{told}, seen...)
		for k, list := range lists {
			lists[k] = list[:cap(list)]
		}
		right := copies(lists)
		if !handed() {
			t.Errorf("%s: changed", what)
		}
		for k := range lists {
			scribble(lists[k], 666)
			if !handed() || !equalLists(lists[k+1:], right[k+1:]) {
				t.Errorf("%s: list %d of the answer shares memory", what, k)
			}
		}
		scribble(seen, nil)
	}
	if firsts[0] != firsts[1] {
		t.Errorf("%s: first %s, then %s", what, firsts[0], firsts[1])
	}
}

func TestP2Memory(t *testing.T) {
	for i, s := range settings() {
		for seed := range uint64(20) {
			d := &drawn{seed + uint64(i)*1000}
			c := d.circuit(mostGates, s.n)
			n := count(c, api.GInput)
			need, _ := needed(c, s.n, s.few)
			checkMemory(t, c, s.n, s.few, d.list(n), d.list(need))
			checkMemory(t, c, s.n, s.few, d.list(n+1), d.list(need))
			checkMemory(t, c, s.n, s.few, d.list(n), d.list(need+1))
			checkMemory(t, c, s.n, s.few+5, d.list(n), d.list(need))
		}
	}
	checkMemory(t, api.Circuit{}, 3, 1, nil, nil)
}

// One list may be handed in for inputs and draws, with itself as the room behind.
func TestP2OneListForAll(t *testing.T) {
	c := oneOfEach(1)
	for _, s := range settings() {
		need, _ := needed(c, s.n, s.few)
		list := (&drawn{4}).list(need + 2)
		first := slices.Clone(list)
		right, seen := ran(c, s.n, s.few, first[:2], first[1:need+1])
		for range 2 {
			expectRun(t, c, s.n, s.few, list[:2], list[1:need+1], right, seen, api.OK)
		}
		if !slices.Equal(list, first) {
			t.Errorf("%d: changed to %d", first, list)
		}
	}
}

// readCircuit makes a circuit of any bytes, right or wrong.
func readCircuit(bytes []byte) api.Circuit {
	var c api.Circuit
	for len(bytes) >= 4 && bytes[0] < 200 {
		g := api.Gate{Kind: int(bytes[0] % 8), A: int(int8(bytes[1])), B: int(int8(bytes[2])), N: uint64(bytes[3]) * (top / 255)}
		c.Gates, bytes = append(c.Gates, g), bytes[4:]
	}
	for _, b := range bytes {
		c.Outs = append(c.Outs, int(b)-200)
	}
	return c
}

func FuzzP1P2(f *testing.F) {
	f.Add([]byte{1, 1, 0, 0, 200}, 3, 1, 1, 1)
	f.Add([]byte{1, 1, 0, 0, 2, 0, 0, 255, 3, 0, 1, 0, 6, 2, 0, 9, 203, 202}, 1, 0, 1, 0)
	f.Add([]byte{1, 3, 0, 0, 1, 5, 0, 0, 5, 0, 1, 0, 4, 2, 0, 0, 203}, 5, 2, 2, 14)
	f.Add([]byte{1, 9, 0, 0, 5, 0, 0, 0, 201}, 9, 4, 1, 40)
	f.Add([]byte{}, math.MaxInt, math.MinInt, 0, 0)
	f.Add([]byte{2, 0, 0, 5, 200}, math.MinInt, math.MaxInt, 3, 3)
	f.Fuzz(func(t *testing.T, bytes []byte, n, few, ins, count int) {
		d := &drawn{uint64(len(bytes))}
		c := readCircuit(bytes)
		checkMemory(t, c, n, few, d.list(min(max(ins, 0), 40)), d.list(min(max(count, 0), 1200)))
		need, e := needed(c, n, few)
		if e != api.OK {
			expectWrong(t, c, n, few, e)
			return
		}
		expectNeed(t, c, n, few, need, api.OK)
		whose, _ := circuit.Inputs(c)
		expectRight(t, c, n, few, d.list(len(whose)), d.list(need))
	})
}
