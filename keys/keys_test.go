package keys_test

import (
	"fmt"
	"maps"
	"math"
	"math/big"
	"slices"
	"testing"

	"sharecroft/api"
	"sharecroft/hide"
	"sharecroft/keys"
	"sharecroft/shamir"
)

const (
	p    = api.P
	top  = 1<<64 - 1
	most = api.MaxKeys
)

func whole(a uint64) *big.Int { return new(big.Int).SetUint64(a) }

func rest(a *big.Int) uint64 {
	return new(big.Int).Mod(a, whole(p)).Uint64()
}

// sum and times reckon by whole numbers, so that they share no fault with the
// packages.
func sum(x, y uint64) uint64   { return rest(new(big.Int).Add(whole(x), whole(y))) }
func times(x, y uint64) uint64 { return rest(new(big.Int).Mul(whole(x), whole(y))) }

// at is what the polynomial of these numbers tells at x, power by power.
func at(coefs []uint64, x int) uint64 {
	all, power := new(big.Int), big.NewInt(1)
	for _, y := range coefs {
		all.Add(all, new(big.Int).Mul(whole(y), power))
		power.Mul(power, big.NewInt(int64(x)))
	}
	return rest(all)
}

// weight of party i of n: i is from 1 on, and Lagrange's products are, of all
// parties' numbers, binomials with a sign in turn.
func weight(n, i int) uint64 {
	w := new(big.Int).Binomial(int64(n), int64(i))
	if i%2 == 0 {
		w.Neg(w)
	}
	return rest(w)
}

// edges are numbers of all kinds: small, at the edge of P, beyond it.
func edges() []uint64 {
	return []uint64{0, 1, 5, p - 1, p, p + 1, 2*p + 7, 1 << 32, top - 1, top}
}

// ints are numbers that may be handed in as n, as t or as a handle.
func ints() []int {
	return []int{math.MinInt, -1 << 32, -9, -2, -1, 0, 1, 2, 3, 4, 5, 6, 7, 8, 9, 10, 11, 256 + 3, 1<<32 + 1, 1<<62 + 1, math.MaxInt}
}

// drawn makes numbers that look as if drawn; each seed has its own.
type drawn struct{ seed uint64 }

func (d *drawn) number() uint64 {
	d.seed = d.seed*6364136223846793005 + 1442695040888963407
	return d.seed ^ d.seed>>29
}

func (d *drawn) below(n int) int { return int(d.number() >> 8 % uint64(n)) }

func (d *drawn) numberOrEdge() uint64 {
	if d.below(2) == 0 {
		return d.number()
	}
	return edges()[d.below(len(edges()))]
}

func (d *drawn) list(n int) []uint64 {
	list := make([]uint64, n)
	for i := range list {
		list[i] = d.numberOrEdge()
	}
	return list
}

// setting is how many parties there are, and how many may look together.
type setting struct{ n, few int }

// settings are all that there may be.
func settings() []setting {
	var list []setting
	for few := range 5 {
		for n := 2*few + 1; n <= 9; n++ {
			list = append(list, setting{n, few})
		}
	}
	return list
}

// step is a call, with what it is handed; what the call doesn't take is 0.
type step struct {
	call  string
	g, h  int
	a, b  uint64
	draws []uint64
}

func calls() []string {
	return []string{"Gen", "Refresh", "Tweak", "Combine", "Multiply", "Open", "Shares", "Drop"}
}

// told is all that a call may answer; what it doesn't is 0.
type told struct {
	handle int
	number uint64
	list   []uint64
	e      api.Errno
}

func alike(x, y told) bool {
	return x.handle == y.handle && x.number == y.number && slices.Equal(x.list, y.list) && x.e == y.e
}

// do makes the call.
func (s step) do(k *keys.Keys) (a told) {
	switch s.call {
	case "Gen":
		a.handle, a.e = k.Gen(s.draws)
	case "Refresh":
		a.e = k.Refresh(s.h, s.draws)
	case "Tweak":
		a.handle, a.e = k.Tweak(s.h, s.a)
	case "Combine":
		a.handle, a.e = k.Combine(s.g, s.h, s.a, s.b)
	case "Multiply":
		a.handle, a.e = k.Multiply(s.g, s.h, s.draws)
	case "Open":
		a.number, a.e = k.Open(s.h)
	case "Shares":
		a.list, a.e = k.Shares(s.h)
	case "Drop":
		a.e = k.Drop(s.h)
	}
	return a
}

// book tells what each call is to answer, not by the parties' numbers but by
// each key's polynomial, of which they are.
type book struct {
	n, few int
	last   int
	polys  map[int][]uint64
}

// error is the one that is told of a call, or OK.
func (b *book) error(s step) api.Errno {
	one, two := b.polys[s.g] != nil, b.polys[s.h] != nil
	pair := s.call == "Combine" || s.call == "Multiply"
	makes := pair || s.call == "Gen" || s.call == "Tweak"
	need := map[string]int{"Gen": b.n * (b.few + 1), "Refresh": b.n * b.few, "Multiply": b.n * b.few}
	count, draws := need[s.call]
	switch {
	case s.call != "Gen" && !two, pair && !one:
		return api.ErrNone
	case draws && len(s.draws) != count:
		return api.ErrArg
	case makes && len(b.polys) == most:
		return api.ErrLarge
	}
	return api.OK
}

func (b *book) do(s step) told {
	if e := b.error(s); e != api.OK {
		return told{e: e}
	}
	one, two := b.polys[s.g], b.polys[s.h]
	switch s.call {
	case "Gen":
		return b.keep(b.together(make([]uint64, b.few+1), 0, s.draws))
	case "Refresh":
		b.polys[s.h] = b.together(two, 1, s.draws)
	case "Tweak":
		return b.keep(append([]uint64{sum(two[0], s.a)}, two[1:]...))
	case "Combine":
		all := make([]uint64, b.few+1)
		for i := range all {
			all[i] = sum(times(one[i], s.a), times(two[i], s.b))
		}
		return b.keep(all)
	case "Multiply":
		return b.keep(b.product(one, two, s.draws))
	case "Open":
		return told{number: at(two, 0)}
	case "Shares":
		return told{list: b.numbers(two)}
	case "Drop":
		delete(b.polys, s.h)
	}
	return told{}
}

func (b *book) keep(coefs []uint64) told {
	b.last++
	b.polys[b.last] = coefs
	return told{handle: b.last}
}

func (b *book) numbers(coefs []uint64) []uint64 {
	var list []uint64
	for i := range b.n {
		list = append(list, at(coefs, i+1))
	}
	return list
}

// together is coefs and all parties' draws, each party's beginning with a power.
func (b *book) together(coefs []uint64, power int, draws []uint64) []uint64 {
	all := slices.Clone(coefs)
	each := b.few + 1 - power
	for i, y := range draws {
		all[power+i%each] = sum(all[power+i%each], y)
	}
	return all
}

// product adds up the polynomials that the parties deal, each times its weight.
func (b *book) product(one, two, draws []uint64) []uint64 {
	all := make([]uint64, b.few+1)
	for from := range b.n {
		dealt := append([]uint64{times(at(one, from+1), at(two, from+1))}, draws[from*b.few:(from+1)*b.few]...)
		for i, y := range dealt {
			all[i] = sum(all[i], times(y, weight(b.n, from+1)))
		}
	}
	return all
}

// pair is a Keys, and the book of what it is to tell.
type pair struct {
	t *testing.T
	k *keys.Keys
	b *book
}

func newPair(t *testing.T, s setting) pair {
	t.Helper()
	k, e := keys.New(s.n, s.few)
	if e != api.OK || k == nil {
		t.Fatalf("New(%d, %d): %v, %d", s.n, s.few, k, e)
	}
	return pair{t, k, &book{n: s.n, few: s.few, polys: map[int][]uint64{}}}
}

// do makes a call in both, and holds the one against the other.
func (o pair) do(s step) told {
	o.t.Helper()
	right := o.b.do(s)
	got := s.do(o.k)
	if !alike(got, right) || got.e != api.OK && got.list != nil {
		o.t.Errorf("%d of %d, %v: %v, not %v", o.b.few, o.b.n, s, got, right)
	}
	return got
}

// all holds all keys, and some that there are not, against the book.
func (o pair) all() {
	o.t.Helper()
	for h := -1; h <= o.b.last+2; h++ {
		o.do(step{call: "Open", h: h})
		o.do(step{call: "Shares", h: h})
	}
}

// expect makes a call, and holds that it answers just that error or, with OK,
// a handle or nothing; and what all keys are then.
func (o pair) expect(s step, handle int, e api.Errno) {
	o.t.Helper()
	if got := o.do(s); got.handle != handle || got.e != e {
		o.t.Errorf("%d of %d, %v: %v, not %d, %d", o.b.few, o.b.n, s, got, handle, e)
	}
	o.all()
}

// gen makes keys until there are so many that ever were.
func (o pair) gen(count int) {
	o.t.Helper()
	d := &drawn{uint64(o.b.n)}
	for h := 1; h <= count; h++ {
		if got := o.do(step{call: "Gen", draws: d.list(o.b.n * (o.b.few + 1))}); got.handle != h {
			o.t.Fatalf("%d of %d: %v, not handle %d", o.b.few, o.b.n, got, h)
		}
	}
}

// right is a step of that call, of keys g and h, that has what it must have.
func (o pair) right(call string, g, h int, d *drawn) step {
	s := step{call: call, g: g, h: h, a: d.numberOrEdge(), b: d.numberOrEdge()}
	switch call {
	case "Gen":
		s.draws = d.list(o.b.n * (o.b.few + 1))
	case "Refresh", "Multiply":
		s.draws = d.list(o.b.n * o.b.few)
	}
	return s
}

func isMaker(call string) bool {
	return slices.Contains([]string{"Gen", "Tweak", "Combine", "Multiply"}, call)
}

func TestP20New(t *testing.T) {
	right := 0
	for _, n := range ints() {
		for _, few := range ints() {
			k, e := keys.New(n, few)
			if slices.Contains(settings(), setting{n, few}) {
				right++
				if k == nil || e != api.OK {
					t.Errorf("New(%d, %d): %v, %d", n, few, k, e)
				}
			} else if k != nil || e != api.ErrArg {
				t.Errorf("New(%d, %d): %v, %d, not an error", n, few, k, e)
			}
		}
	}
	if right != 25 {
		t.Errorf("%d settings, not 25", right)
	}
}

func TestP20WithoutKeys(t *testing.T) {
	for _, s := range settings() {
		o := newPair(t, s)
		for _, call := range calls()[1:] {
			for _, h := range ints() {
				o.expect(o.right(call, h, h, &drawn{1}), 0, api.ErrNone)
			}
		}
		o.gen(1)
		o.all()
	}
}

func TestP20Examples(t *testing.T) {
	// One party's key is what it drew.
	o := newPair(t, setting{1, 0})
	for i, x := range []uint64{7, p + 7, top, p} {
		o.expect(step{call: "Gen", draws: []uint64{x}}, i+1, api.OK)
		if got, e := o.k.Open(i + 1); e != api.OK || got != []uint64{7, 7, 3, 0}[i] {
			t.Errorf("%d: %d, %d", x, got, e)
		}
	}
	// 1 drawn 9, 2 drawn 8, 3 drawn 7: 6 and 24 times the first power.
	k, _ := keys.New(3, 1)
	if h, e := k.Gen([]uint64{1, 9, 2, p + 8, 3, 7}); h != 1 || e != api.OK {
		t.Error(h, e)
	}
	if got, e := k.Shares(1); e != api.OK || !slices.Equal(got, []uint64{30, 54, 78}) {
		t.Error(got, e)
	}
	if got, e := k.Open(1); e != api.OK || got != 6 {
		t.Error(got, e)
	}
	// Of two parties of whom none may look each has all of the key.
	k, _ = keys.New(2, 0)
	if h, e := k.Gen([]uint64{p - 1, 5}); h != 1 || e != api.OK {
		t.Error(h, e)
	}
	if got, e := k.Shares(1); e != api.OK || !slices.Equal(got, []uint64{4, 4}) {
		t.Error(got, e)
	}
}

// Each draw is seen by itself, whosever it is; and draws of all kinds.
func TestP20Gen(t *testing.T) {
	for _, s := range settings() {
		need := s.n * (s.few + 1)
		for place := range need {
			for _, x := range edges() {
				draws := make([]uint64, need)
				draws[place] = x
				newPair(t, s).expect(step{call: "Gen", draws: draws}, 1, api.OK)
			}
		}
		o := newPair(t, s)
		for seed := range most {
			o.expect(o.right("Gen", 0, 0, &drawn{uint64(seed)}), seed+1, api.OK)
		}
	}
}

// Draws that are not as many as there must be are told ahead of too many keys.
func TestP20GenDraws(t *testing.T) {
	for _, s := range settings() {
		need := s.n * (s.few + 1)
		for _, count := range []int{0, most} {
			o := newPair(t, s)
			o.gen(count)
			for _, n := range []int{0, need - 1, need + 1, s.n * s.few, need + s.few + 1, need + s.n, 2 * need, 256 + need, 1000} {
				if n != need {
					o.expect(step{call: "Gen", draws: make([]uint64, n)}, 0, api.ErrArg)
				}
			}
		}
	}
}

// The key is the sum of all first draws, so it may be any, as long as one party
// keeps its own: of what any t others were dealt there are draws of that party
// with which its first draw is another.
func TestP20NobodyHasIt(t *testing.T) {
	for i, s := range settings() {
		for seed := range uint64(20) {
			d := &drawn{seed + uint64(i)*1000}
			parties := make([]int, s.n)
			for j := range parties {
				other := d.below(j + 1)
				parties[j], parties[other] = parties[other], j+1
			}
			who, hider := parties[:s.few], parties[s.few]
			draws := d.list(s.n * (s.few + 1))
			first := (hider - 1) * (s.few + 1)
			other := slices.Clone(draws)
			other[first] = sum(draws[first], 1+uint64(d.below(1000)))
			shifted, e := hide.Shift(who, draws[first], other[first], draws[first+1:first+1+s.few])
			copy(other[first+1:], shifted)
			k, _ := keys.New(s.n, s.few)
			_, f := k.Gen(draws)
			_, g := k.Gen(other)
			if e != api.OK || f != api.OK || g != api.OK {
				t.Fatal(s, e, f, g)
			}
			x, _ := k.Shares(1)
			y, _ := k.Shares(2)
			for j := range x {
				if (x[j] == y[j]) != slices.Contains(who, j+1) {
					t.Errorf("%d, %d look: party %d has %d, then %d", s, who, j+1, x[j], y[j])
				}
			}
			one, _ := k.Open(1)
			two, _ := k.Open(2)
			if one == two {
				t.Errorf("%d, %d look: the key is %d still", s, who, one)
			}
		}
	}
}

// Any t + 1 parties' numbers are enough to tell a key.
func TestP20EnoughHaveIt(t *testing.T) {
	for _, s := range settings() {
		o := newPair(t, s)
		o.gen(2)
		d := &drawn{5}
		o.do(o.right("Refresh", 0, 1, d))
		o.do(o.right("Multiply", 1, 2, d))
		o.do(o.right("Combine", 3, 2, d))
		for h := 1; h <= 4; h++ {
			numbers, _ := o.k.Shares(h)
			key, _ := o.k.Open(h)
			for from := 0; from+s.few < s.n; from++ {
				var l []api.Share
				for i := from; i <= from+s.few; i++ {
					l = append(l, api.Share{At: i + 1, Y: numbers[i]})
				}
				if got, e := shamir.Open(s.few, l); e != api.OK || got != key {
					t.Errorf("%d: %d tell %d, %d, not %d", s, l, got, e, key)
				}
			}
		}
	}
}

// A handle never comes again, and none is lost by a call that tells an error.
func TestP20Handles(t *testing.T) {
	for _, s := range settings() {
		o := newPair(t, s)
		d := &drawn{uint64(s.n)}
		o.gen(3)
		o.expect(step{call: "Drop", h: 3}, 0, api.OK)
		o.expect(o.right("Gen", 0, 0, d), 4, api.OK)
		o.expect(step{call: "Drop", h: 1}, 0, api.OK)
		o.expect(step{call: "Gen", draws: d.list(1000)}, 0, api.ErrArg)
		o.expect(o.right("Tweak", 0, 1, d), 0, api.ErrNone)
		o.expect(o.right("Combine", 2, 1, d), 0, api.ErrNone)
		o.expect(step{call: "Multiply", g: 2, h: 2, draws: d.list(1000)}, 0, api.ErrArg)
		o.expect(o.right("Tweak", 0, 2, d), 5, api.OK)
		for h := range 6 {
			o.do(step{call: "Drop", h: h})
		}
		o.expect(o.right("Gen", 0, 0, d), 6, api.OK)
		for h := 7; h < 1000; h++ {
			if got := o.do(o.right("Tweak", 0, h-1, d)); got.handle != h {
				t.Fatalf("%d: %v, not %d", s, got, h)
			}
			o.do(step{call: "Drop", h: h - 1})
		}
		o.all()
	}
}

// With 8 keys none is made; the other calls are as ever; and when one is gone
// there is room for one.
func TestP20Large(t *testing.T) {
	for _, s := range settings() {
		o := newPair(t, s)
		d := &drawn{uint64(s.n)}
		o.gen(most)
		next := most
		for round := range 3 {
			for _, call := range calls() {
				gone := next - most + 1
				want := api.OK
				if isMaker(call) {
					want = api.ErrLarge
					o.expect(o.right(call, next, next, d), 0, want)
				}
				if call != "Drop" {
					o.expect(o.right(call, next, gone, d), 0, want)
				}
				if isMaker(call) {
					next++
					o.expect(step{call: "Drop", h: gone}, 0, api.OK)
					o.expect(o.right(call, next-1, next-1, d), next, api.OK)
					o.expect(o.right(call, next-1, next, d), 0, api.ErrLarge)
				}
			}
			if len(o.b.polys) != most {
				t.Fatalf("%d: %d keys in round %d", s, len(o.b.polys), round)
			}
		}
	}
}

// That there is no such key is told ahead of wrong draws, and of too many keys.
func TestP20None(t *testing.T) {
	for _, s := range settings() {
		for _, count := range []int{1, 2, most, most + 1} {
			o := newPair(t, s)
			o.gen(min(count, most))
			if count > most {
				o.do(step{call: "Drop", h: 3})
				o.do(o.right("Gen", 0, 0, &drawn{1}))
			}
			for _, call := range calls()[1:] {
				for _, h := range append(ints(), o.b.last, o.b.last+1) {
					if o.b.polys[h] != nil {
						continue
					}
					for _, n := range []int{0, s.n * s.few, s.n*s.few + 1, s.n * (s.few + 1)} {
						steps := []step{{call: call, g: h, h: h, draws: make([]uint64, n)}, {call: call, g: 1, h: h, draws: make([]uint64, n)}}
						if call == "Combine" || call == "Multiply" {
							steps = append(steps, step{call: call, g: h, h: 1, draws: make([]uint64, n)})
						}
						for _, x := range steps {
							if got := o.do(x); got.e != api.ErrNone {
								t.Errorf("%d, %v: %v, not ErrNone", s, x, got)
							}
						}
					}
				}
			}
			o.all()
		}
	}
}

func TestP21Examples(t *testing.T) {
	k, _ := keys.New(3, 1)
	expect := func(h int, key uint64, numbers ...uint64) {
		t.Helper()
		got, e := k.Open(h)
		list, f := k.Shares(h)
		if e != api.OK || f != api.OK || got != key || !slices.Equal(list, numbers) {
			t.Errorf("%d: %d, %d, %d, %d, not %d, %d", h, got, e, list, f, key, numbers)
		}
	}
	k.Gen([]uint64{1, 1, 2, 1, 2, 0}) // 5 and twice the first power
	k.Gen([]uint64{p, 0, 3, 1, 0, p}) // 3 and the first power
	expect(1, 5, 7, 9, 11)
	expect(2, 3, 4, 5, 6)
	if e := k.Refresh(1, []uint64{10, p, 20}); e != api.OK {
		t.Error(e)
	}
	expect(1, 5, 37, 69, 101)
	if e := k.Refresh(1, []uint64{p - 30, 0, 0}); e != api.OK {
		t.Error(e)
	}
	expect(1, 5, 7, 9, 11)
	k.Tweak(1, p+1)
	expect(3, 6, 8, 10, 12)
	k.Combine(1, 2, 2, top) // top's rest is 3
	expect(4, 19, 26, 33, 40)
	k.Combine(2, 1, 2, p-1)
	expect(5, 1, 1, 1, 1)
	k.Multiply(1, 2, []uint64{0, 0, p + 1})
	expect(6, 15, 16, 17, 18)
	k.Multiply(2, 2, []uint64{0, 0, 0})
	expect(7, 9, 9, 9, 9)
	if e := k.Drop(1); e != api.OK {
		t.Error(e)
	}
	if x, e := k.Open(1); x != 0 || e != api.ErrNone {
		t.Error(x, e)
	}
	if e := k.Drop(1); e != api.ErrNone {
		t.Error(e)
	}
	// What was made of a key stays when it is gone, or has other numbers.
	k.Refresh(2, []uint64{1, 1, 1})
	expect(2, 3, 7, 11, 15)
	expect(3, 6, 8, 10, 12)
	expect(6, 15, 16, 17, 18)
	expect(7, 9, 9, 9, 9)
}

// Each draw is seen by itself, and the key stays.
func TestP21Refresh(t *testing.T) {
	for _, s := range settings() {
		o := newPair(t, s)
		o.gen(2)
		key, _ := o.k.Open(1)
		other, _ := o.k.Shares(2)
		for place := range s.n * s.few {
			for _, x := range edges() {
				before, _ := o.k.Shares(1)
				draws := make([]uint64, s.n*s.few)
				draws[place] = x
				o.expect(step{call: "Refresh", h: 1, draws: draws}, 0, api.OK)
				after, _ := o.k.Shares(1)
				for i := range after {
					if (before[i] == after[i]) != (x%p == 0) {
						t.Errorf("%d, %d: party %d has %d, then %d", s, draws, i+1, before[i], after[i])
					}
				}
			}
		}
		o.expect(o.right("Refresh", 0, 1, &drawn{1}), 0, api.OK)
		if got, e := o.k.Open(1); e != api.OK || got != key {
			t.Errorf("%d: the key was %d, is %d, %d", s, key, got, e)
		}
		if got, e := o.k.Shares(2); e != api.OK || !slices.Equal(got, other) {
			t.Errorf("%d: the other key was %d, is %d, %d", s, other, got, e)
		}
	}
}

// Draws that are not as many as there must be are told ahead of too many keys.
func TestP21Draws(t *testing.T) {
	for _, s := range settings() {
		need := s.n * s.few
		for _, count := range []int{1, most} {
			o := newPair(t, s)
			o.gen(count)
			for _, n := range []int{0, 1, need - 1, need + 1, s.n * (s.few + 1), need + s.few, need + s.n, 2 * need, 256 + need, 1000} {
				if n < 0 || n == need {
					continue
				}
				o.expect(step{call: "Refresh", h: 1, draws: make([]uint64, n)}, 0, api.ErrArg)
				o.expect(step{call: "Multiply", g: 1, h: 1, draws: make([]uint64, n)}, 0, api.ErrArg)
				o.expect(step{call: "Multiply", g: count, h: 1, draws: make([]uint64, n)}, 0, api.ErrArg)
			}
		}
	}
}

// Numbers of all kinds, and keys with themselves.
func TestP21TweakAndCombine(t *testing.T) {
	for _, s := range settings() {
		o := newPair(t, s)
		o.gen(3)
		for i, a := range edges() {
			o.expect(step{call: "Tweak", h: 2, a: a}, 4+21*i, api.OK)
			o.expect(step{call: "Drop", h: 4 + 21*i}, 0, api.OK)
			for j, b := range edges() {
				h := 5 + 21*i + 2*j
				o.do(step{call: "Combine", g: 1, h: 3, a: a, b: b})
				o.do(step{call: "Combine", g: 2, h: 2, a: a, b: b})
				o.all()
				o.expect(step{call: "Drop", h: h}, 0, api.OK)
				o.expect(step{call: "Drop", h: h + 1}, 0, api.OK)
			}
		}
	}
}

// Each draw is seen by itself, which the product is not changed by.
func TestP21Multiply(t *testing.T) {
	for _, s := range settings() {
		o := newPair(t, s)
		o.gen(2)
		one, _ := o.k.Open(1)
		two, _ := o.k.Open(2)
		for place := range s.n*s.few + 1 {
			draws := make([]uint64, s.n*s.few+1)
			draws[place] = 1
			draws = draws[:s.n*s.few]
			for _, pair := range [][3]uint64{{1, 2, times(one, two)}, {2, 1, times(one, two)}, {2, 2, times(two, two)}} {
				got := o.do(step{call: "Multiply", g: int(pair[0]), h: int(pair[1]), draws: draws})
				if x, e := o.k.Open(got.handle); e != api.OK || x != pair[2] {
					t.Errorf("%d, %d: %d, %d, not %d", s, draws, x, e, pair[2])
				}
				o.all()
				o.do(step{call: "Drop", h: got.handle})
			}
		}
	}
}

// A dropped key is gone for all calls, and the others are as they were.
func TestP21Drop(t *testing.T) {
	for _, s := range settings() {
		for gone := 1; gone <= 4; gone++ {
			o := newPair(t, s)
			d := &drawn{uint64(gone)}
			o.gen(4)
			o.expect(step{call: "Drop", h: gone}, 0, api.OK)
			for _, call := range calls()[1:] {
				o.expect(o.right(call, gone, gone, d), 0, api.ErrNone)
				o.expect(o.right(call, gone%4+1, gone, d), 0, api.ErrNone)
			}
			for _, call := range []string{"Combine", "Multiply"} {
				o.expect(o.right(call, gone, gone%4+1, d), 0, api.ErrNone)
			}
		}
	}
}

// anyStep is of keys that there are, mostly, and of draws that are as many.
func (o pair) anyStep(d *drawn) step {
	handles := append(slices.Sorted(maps.Keys(o.b.polys)), o.b.last+1-d.below(o.b.last+3))
	g, h := handles[d.below(len(handles))], handles[d.below(len(handles))]
	call := append(calls(), "Gen", "Multiply", "Refresh", "Drop")[d.below(12)]
	s := o.right(call, g, h, d)
	if d.below(12) == 0 {
		s.draws = d.list(d.below(60))
	}
	return s
}

func TestP20P21AnyCalls(t *testing.T) {
	found := map[string]int{}
	for i, s := range settings() {
		for seed := range uint64(20) {
			o := newPair(t, s)
			d := &drawn{seed + uint64(i)*1000}
			for range 60 {
				x := o.anyStep(d)
				found[fmt.Sprint(x.call, o.do(x).e)]++
				o.all()
			}
		}
	}
	for _, call := range calls() {
		for _, e := range []api.Errno{api.OK, api.ErrNone, api.ErrArg, api.ErrLarge} {
			none := call == "Gen" && e == api.ErrNone || !isMaker(call) && e == api.ErrLarge
			none = none || e == api.ErrArg && !slices.Contains([]string{"Gen", "Refresh", "Multiply"}, call)
			if n := found[fmt.Sprint(call, e)]; n < 50 && !none || n > 0 && none {
				t.Errorf("%s: %d tells of %d", call, n, e)
			}
		}
	}
}

// One that New didn't make has no parties, so it never has keys; but its calls
// answer.
func TestP1NotOfNew(t *testing.T) {
	for _, k := range []*keys.Keys{{}, new(keys.Keys)} {
		for range 2 {
			for _, call := range calls() {
				for _, h := range ints() {
					for n := range 3 {
						got := step{call: call, g: h, h: h, draws: make([]uint64, n)}.do(k)
						right := told{e: api.ErrNone}
						if call == "Gen" {
							right.e = api.ErrArg
						}
						if !alike(got, right) {
							t.Errorf("%s of %d, %d draws: %v", call, h, n, got)
						}
					}
				}
			}
		}
	}
}

// scribble writes over all of a list, its spare room included.
func scribble(a []uint64) {
	a = a[:cap(a)]
	for i := range a {
		a[i] = 666
	}
}

// doRoomy makes a call whose draws have marked room behind them, and holds that
// they are as they were; then it writes over them and over what is told, of which
// nothing may be seen.
func (o pair) doRoomy(s step) {
	o.t.Helper()
	first := append(slices.Clone(s.draws), 77, 78, 79)
	list := slices.Clone(first)
	s.draws = list[:len(s.draws)]
	got := o.do(s)
	if !slices.Equal(list, first) {
		o.t.Errorf("%v: changed to %d", s, list)
	}
	scribble(got.list)
	if !slices.Equal(list, first) {
		o.t.Errorf("%v: what is told shares memory with the draws", s)
	}
	scribble(list)
	o.all()
}

func TestP2Memory(t *testing.T) {
	for i, s := range settings() {
		for seed := range uint64(5) {
			o := newPair(t, s)
			d := &drawn{seed + uint64(i)*1000 + 500}
			for range 60 {
				o.doRoomy(o.anyStep(d))
			}
		}
	}
}

// Two lists of numbers that are told share nothing, though of one key, or of
// keys that were made of each other.
func TestP2Shares(t *testing.T) {
	for _, s := range settings() {
		o := newPair(t, s)
		o.gen(1)
		zeros := make([]uint64, s.n*s.few)
		o.do(step{call: "Tweak", h: 1})
		o.do(step{call: "Combine", g: 1, h: 2, a: 1})
		o.do(step{call: "Refresh", h: 1, draws: zeros})
		for h := 1; h <= 3; h++ {
			for other := 1; other <= 3; other++ {
				one, _ := o.k.Shares(h)
				two, _ := o.k.Shares(other)
				right := slices.Clone(two)
				scribble(one)
				if !slices.Equal(two, right) {
					t.Errorf("%d: shares of %d and %d share memory", s, h, other)
				}
				o.all()
			}
		}
	}
}

// What one Keys is asked is not seen in another.
func TestP2NothingBeside(t *testing.T) {
	d := &drawn{9}
	var list []pair
	for _, s := range append(settings(), settings()...) {
		list = append(list, newPair(t, s))
	}
	for range 100 {
		for _, o := range list {
			o.do(o.anyStep(d))
		}
	}
	for _, o := range list {
		o.all()
	}
}

func FuzzP1P2(f *testing.F) {
	f.Add(3, 1, []byte{0, 0, 0, 0, 1, 1, 2, 0, 4, 1, 2, 0, 7, 0, 1, 0})
	f.Add(9, 4, []byte{0, 0, 0, 0, 0, 0, 0, 0, 3, 1, 2, 0, 5, 0, 3, 0, 6, 0, 3, 0, 1, 0, 3, 9})
	f.Add(1, 0, []byte{0, 0, 0, 0, 4, 1, 1, 0, 4, 2, 2, 1})
	f.Add(math.MaxInt, math.MinInt, []byte{})
	f.Fuzz(func(t *testing.T, n, few int, bytes []byte) {
		if !slices.Contains(settings(), setting{n, few}) {
			if k, e := keys.New(n, few); k != nil || e != api.ErrArg {
				t.Errorf("New(%d, %d): %v, %d", n, few, k, e)
			}
			return
		}
		o := newPair(t, setting{n, few})
		d := &drawn{uint64(len(bytes))}
		for chunk := range slices.Chunk(bytes[:min(len(bytes), 400)/4*4], 4) {
			s := o.right(calls()[chunk[0]%8], int(int8(chunk[1])), int(int8(chunk[2])), d)
			if chunk[3] > 0 {
				s.draws = d.list(int(chunk[3]) - 1)
			}
			o.doRoomy(s)
		}
	})
}
