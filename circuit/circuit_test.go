package circuit_test

import (
	"fmt"
	"math"
	"math/big"
	"regexp"
	"slices"
	"strconv"
	"strings"
	"testing"

	"sharecroft/api"
	"sharecroft/circuit"
)

const (
	p    = api.P
	top  = 1<<64 - 1
	most = api.MaxGates
)

func whole(a uint64) *big.Int { return new(big.Int).SetUint64(a) }

func rest(a *big.Int) uint64 {
	return new(big.Int).Mod(a, whole(p)).Uint64()
}

// edges are numbers of all kinds: small, at the edge of P, beyond it.
func edges() []uint64 {
	return []uint64{0, 1, 5, p - 1, p, p + 1, 2*p + 7, 1 << 32, top - 1, top}
}

// ints are numbers that may stand in A, in B, in Kind and in Outs.
func ints() []int {
	return []int{math.MinInt, -1 << 32, -7, -1, 0, 1, 2, 3, 4, 5, 6, 7, 8, 9, 10, 11, 28, 29, 30, 31, 256 + 1, 1<<32 + 1, math.MaxInt}
}

// drawn makes numbers that look as if drawn; each seed has its own.
type drawn struct{ seed uint64 }

func (d *drawn) number() uint64 {
	d.seed = d.seed*6364136223846793005 + 1442695040888963407
	return d.seed ^ d.seed>>29
}

func (d *drawn) below(n int) int { return int(d.number() % uint64(n)) }

func (d *drawn) numberOrEdge() uint64 {
	if d.below(2) == 0 {
		return d.number()
	}
	return edges()[d.below(len(edges()))]
}

func (d *drawn) list(n int) []uint64 {
	list := make([]uint64, n)
	for i := range list {
		list[i] = d.numberOrEdge()
	}
	return list
}

// gate is a right one for that wire.
func (d *drawn) gate(wire int) api.Gate {
	kind := 1 + d.below(6)
	if wire == 0 {
		kind = 1 + d.below(2)
	}
	switch kind {
	case api.GInput:
		return api.Gate{Kind: kind, A: 1 + d.below(9)}
	case api.GConst:
		return api.Gate{Kind: kind, N: d.numberOrEdge()}
	case api.GScale:
		return api.Gate{Kind: kind, A: d.below(wire), N: d.numberOrEdge()}
	}
	return api.Gate{Kind: kind, A: d.below(wire), B: d.below(wire)}
}

// circuit is a right one.
func (d *drawn) circuit() api.Circuit {
	var c api.Circuit
	for wire := range 1 + d.below(most) {
		c.Gates = append(c.Gates, d.gate(wire))
	}
	for range 1 + d.below(most) {
		c.Outs = append(c.Outs, d.below(len(c.Gates)))
	}
	return c
}

// oneOfEach has a gate of each kind.
func oneOfEach() api.Circuit {
	return api.Circuit{
		Gates: []api.Gate{
			{Kind: api.GInput, A: 9},
			{Kind: api.GConst, N: 7},
			{Kind: api.GAdd, A: 0, B: 1},
			{Kind: api.GSub, A: 1, B: 0},
			{Kind: api.GMul, A: 2, B: 3},
			{Kind: api.GScale, A: 4, N: p + 2},
			{Kind: api.GInput, A: 1},
		},
		Outs: []int{6, 5, 4, 3, 2, 1, 0, 5},
	}
}

// anyGates are n right gates, and anyOuts n Outs that any circuit may have.
func anyGates(n int) []api.Gate { return slices.Repeat([]api.Gate{{Kind: api.GConst, N: 5}}, n) }
func anyOuts(n int) []int       { return make([]int, n) }

func withGate(c api.Circuit, wire int, g api.Gate) api.Circuit {
	gates := slices.Clone(c.Gates)
	gates[wire] = g
	return api.Circuit{Gates: gates, Outs: c.Outs}
}

// gateIsRight asks rule by rule what P14 tells of a gate.
func gateIsRight(g api.Gate, wire int) bool {
	ahead := func(x int) bool { return 0 <= x && x <= wire-1 }
	rules := map[int]bool{
		api.GInput: 1 <= g.A && g.A <= 9 && g.B == 0 && g.N == 0,
		api.GConst: g.A == 0 && g.B == 0,
		api.GAdd:   ahead(g.A) && ahead(g.B) && g.N == 0,
		api.GSub:   ahead(g.A) && ahead(g.B) && g.N == 0,
		api.GMul:   ahead(g.A) && ahead(g.B) && g.N == 0,
		api.GScale: ahead(g.A) && g.B == 0,
	}
	return rules[g.Kind]
}

// checked is what Check is to tell.
func checked(c api.Circuit) api.Errno {
	switch {
	case len(c.Gates) < 1, len(c.Outs) < 1:
		return api.ErrArg
	case len(c.Gates) > 30, len(c.Outs) > 30:
		return api.ErrLarge
	}
	for i, g := range c.Gates {
		if !gateIsRight(g, i) {
			return api.ErrArg
		}
	}
	for _, x := range c.Outs {
		if x < 0 || x >= len(c.Gates) {
			return api.ErrArg
		}
	}
	return api.OK
}

func owners(c api.Circuit) []int {
	var list []int
	for _, g := range c.Gates {
		if g.Kind == api.GInput {
			list = append(list, g.A)
		}
	}
	return list
}

// wire tells what a wire of a right circuit has, from its end backwards, by
// whole numbers; known are those that have been told.
func wire(c api.Circuit, in []uint64, i int, known map[int]*big.Int) *big.Int {
	if known[i] != nil {
		return known[i]
	}
	g, value := c.Gates[i], new(big.Int)
	a := func() *big.Int { return wire(c, in, g.A, known) }
	b := func() *big.Int { return wire(c, in, g.B, known) }
	switch g.Kind {
	case api.GInput:
		value = whole(in[len(owners(api.Circuit{Gates: c.Gates[:i]}))])
	case api.GConst:
		value = whole(g.N)
	case api.GAdd:
		value.Add(a(), b())
	case api.GSub:
		value.Sub(a(), b())
	case api.GMul:
		value.Mul(a(), b())
	case api.GScale:
		value.Mul(a(), whole(g.N))
	}
	known[i] = value.Mod(value, whole(p))
	return known[i]
}

func ran(c api.Circuit, in []uint64) []uint64 {
	var list []uint64
	known := map[int]*big.Int{}
	for _, x := range c.Outs {
		list = append(list, rest(wire(c, in, x, known)))
	}
	return list
}

// printed is the text of a right circuit.
func printed(c api.Circuit) string {
	s := ""
	for _, g := range c.Gates {
		n := g.N % p
		switch g.Kind {
		case api.GInput:
			s += fmt.Sprintf("input %d\n", g.A)
		case api.GConst:
			s += fmt.Sprintf("const %d\n", n)
		case api.GAdd:
			s += fmt.Sprintf("add %d %d\n", g.A, g.B)
		case api.GSub:
			s += fmt.Sprintf("sub %d %d\n", g.A, g.B)
		case api.GMul:
			s += fmt.Sprintf("mul %d %d\n", g.A, g.B)
		case api.GScale:
			s += fmt.Sprintf("scale %d %d\n", g.A, n)
		}
	}
	for _, x := range c.Outs {
		s += fmt.Sprintf("out %d\n", x)
	}
	return s
}

var (
	one      = `(0|[1-9][0-9]{0,9})`
	gateLine = regexp.MustCompile(`^(?:(input|const) ` + one + `|(add|sub|mul|scale) ` + one + ` ` + one + `)\n$`)
	outLine  = regexp.MustCompile(`^out ` + one + `\n$`)
	kinds    = map[string]int{"input": 1, "const": 2, "add": 3, "sub": 4, "mul": 5, "scale": 6}
)

func number(s string) uint64 {
	n, _ := strconv.ParseUint("0"+s, 10, 64)
	return n
}

// gateOf makes a gate of what gateLine found.
func gateOf(found []string) api.Gate {
	kind := kinds[found[1]+found[3]]
	a, n := number(found[2]+found[4]), number(found[5])
	switch kind {
	case api.GInput:
		return api.Gate{Kind: kind, A: int(a)}
	case api.GConst:
		return api.Gate{Kind: kind, N: a % p}
	case api.GScale:
		return api.Gate{Kind: kind, A: int(a), N: n % p}
	}
	return api.Gate{Kind: kind, A: int(a), B: int(n)}
}

// parsed is what Parse is to tell, by regular expressions.
func parsed(s string) (api.Circuit, int, api.Errno) {
	var c api.Circuit
	if len(s) > 2048 {
		return c, 0, api.ErrLarge
	}
	lines := strings.SplitAfter(s, "\n")
	if lines[len(lines)-1] == "" {
		lines = lines[:len(lines)-1]
	}
	for i, line := range lines {
		if found := outLine.FindStringSubmatch(line); found != nil {
			c.Outs = append(c.Outs, int(number(found[1])))
			continue
		}
		found := gateLine.FindStringSubmatch(line)
		if found == nil || c.Outs != nil {
			return api.Circuit{}, i + 1, api.ErrSyntax
		}
		c.Gates = append(c.Gates, gateOf(found))
	}
	if e := checked(c); e != api.OK {
		return api.Circuit{}, 0, e
	}
	return c, 0, api.OK
}

func equal(c, d api.Circuit) bool {
	return slices.Equal(c.Gates, d.Gates) && slices.Equal(c.Outs, d.Outs)
}

func expectCheck(t *testing.T, c api.Circuit, f api.Errno) {
	t.Helper()
	if e := circuit.Check(c); e != f {
		t.Errorf("Check(%d): %d, not %d", c, e, f)
	}
}

func expectInputs(t *testing.T, c api.Circuit, right []int, f api.Errno) {
	t.Helper()
	got, e := circuit.Inputs(c)
	if e != f || !slices.Equal(got, right) || f != api.OK && got != nil {
		t.Errorf("Inputs(%d): %d, %d, not %d, %d", c, got, e, right, f)
	}
}

func expectRun(t *testing.T, c api.Circuit, in, right []uint64, f api.Errno) {
	t.Helper()
	got, e := circuit.Run(c, in)
	if e != f || !slices.Equal(got, right) || f != api.OK && got != nil {
		t.Errorf("Run(%d, %d): %d, %d, not %d, %d", c, in, got, e, right, f)
	}
}

func expectPrint(t *testing.T, c api.Circuit, right string, f api.Errno) {
	t.Helper()
	if got, e := circuit.Print(c); e != f || got != right {
		t.Errorf("Print(%d): %q, %d, not %q, %d", c, got, e, right, f)
	}
}

func expectParse(t *testing.T, s string, right api.Circuit, line int, f api.Errno) {
	t.Helper()
	c, at, e := circuit.Parse(s)
	if e != f || at != line || !equal(c, right) || f != api.OK && (c.Gates != nil || c.Outs != nil) {
		t.Errorf("Parse(%q): %d, %d, %d, not %d, %d, %d", s, c, at, e, right, line, f)
	}
}

// expectWrong holds that all calls tell Check's error, and nothing else.
func expectWrong(t *testing.T, c api.Circuit, f api.Errno) {
	t.Helper()
	expectCheck(t, c, f)
	expectInputs(t, c, nil, f)
	expectRun(t, c, nil, nil, f)
	expectRun(t, c, make([]uint64, len(owners(c))), nil, f)
	expectRun(t, c, make([]uint64, 100), nil, f)
	expectPrint(t, c, "", f)
}

// expectAll holds all calls that take a circuit against what they are to tell.
func expectAll(t *testing.T, c api.Circuit) {
	t.Helper()
	if f := checked(c); f != api.OK {
		expectWrong(t, c, f)
		return
	}
	expectCheck(t, c, api.OK)
	expectInputs(t, c, owners(c), api.OK)
	expectPrint(t, c, printed(c), api.OK)
}

func TestP14Examples(t *testing.T) {
	c := oneOfEach()
	expectCheck(t, c, api.OK)
	expectInputs(t, c, []int{9, 1}, api.OK)
	// 3 and 7: 10; 7 less 3: 4; 40; by 2: 80.
	expectRun(t, c, []uint64{3, 11}, []uint64{11, 80, 40, 4, 10, 7, 3, 80}, api.OK)
	// 9 and 7: 16; 7 less 9: -2; -32; by 2: -64.
	expectRun(t, c, []uint64{p + 9, top}, []uint64{3, p - 64, p - 32, p - 2, 16, 7, 9, p - 64}, api.OK)
	expectRun(t, c, []uint64{3}, nil, api.ErrForm)
	expectRun(t, c, []uint64{3, 11, 4}, nil, api.ErrForm)

	constant := api.Circuit{Gates: []api.Gate{{Kind: api.GConst, N: top}}, Outs: []int{0}}
	expectInputs(t, constant, nil, api.OK)
	expectRun(t, constant, nil, []uint64{3}, api.OK)
	expectRun(t, constant, []uint64{}, []uint64{3}, api.OK)
	expectRun(t, constant, []uint64{3}, nil, api.ErrForm)
}

// Each kind, with each A, B and N, at the first, at a middle and at the last wire.
func TestP14Gates(t *testing.T) {
	right := 0
	for _, c := range []api.Circuit{oneOfEach(), {Gates: anyGates(most), Outs: anyOuts(most)}} {
		for _, at := range []int{0, 1, 2, 5, len(c.Gates) - 1} {
			for _, kind := range ints() {
				for _, a := range ints() {
					for _, b := range ints() {
						for _, n := range []uint64{0, 1, p, 1 << 32, top} {
							d := withGate(c, at, api.Gate{Kind: kind, A: a, B: b, N: n})
							expectCheck(t, d, checked(d))
							if checked(d) == api.OK {
								right++
							}
						}
					}
				}
			}
		}
	}
	if right < 1000 {
		t.Errorf("only %d right circuits", right)
	}
}

// What isn't told is whole 0: P, whose rest is 0, isn't.
func TestP14Untold(t *testing.T) {
	c := oneOfEach()
	for at, g := range c.Gates {
		for _, n := range edges()[1:] {
			if g.Kind != api.GConst && g.Kind != api.GScale {
				g.N = n
				expectWrong(t, withGate(c, at, g), api.ErrArg)
			}
		}
	}
	for _, x := range ints() {
		if x != 0 {
			expectWrong(t, withGate(c, 0, api.Gate{Kind: api.GInput, A: 9, B: x}), api.ErrArg)
			expectWrong(t, withGate(c, 1, api.Gate{Kind: api.GConst, A: x, N: 7}), api.ErrArg)
			expectWrong(t, withGate(c, 1, api.Gate{Kind: api.GConst, B: x, N: 7}), api.ErrArg)
			expectWrong(t, withGate(c, 5, api.Gate{Kind: api.GScale, A: 4, B: x, N: 7}), api.ErrArg)
		}
	}
}

func TestP14Outs(t *testing.T) {
	for _, x := range ints() {
		for n := 1; n <= most; n++ {
			for _, at := range []int{0, 1, most - 1} {
				c := api.Circuit{Gates: anyGates(n), Outs: anyOuts(most)}
				c.Outs[at] = x
				expectAll(t, c)
			}
		}
	}
	// An Out may be told any number of times, and a gate not at all.
	expectRun(t, api.Circuit{Gates: anyGates(3), Outs: []int{1, 1, 1, 1}}, nil, []uint64{5, 5, 5, 5}, api.OK)
}

func TestP14Counts(t *testing.T) {
	counts := []int{0, 1, 2, most - 1, most, most + 1, 256 + 1, 5000}
	for _, n := range counts {
		for _, m := range counts {
			expectAll(t, api.Circuit{Gates: anyGates(n), Outs: anyOuts(m)})
			// Wrong gates and Outs are told behind their counts.
			expectAll(t, api.Circuit{Gates: make([]api.Gate, n), Outs: slices.Repeat([]int{-1}, m)})
		}
	}
	expectWrong(t, api.Circuit{}, api.ErrArg)
	expectWrong(t, api.Circuit{Gates: []api.Gate{}, Outs: anyOuts(most + 1)}, api.ErrArg)
	expectWrong(t, api.Circuit{Gates: anyGates(most + 1), Outs: []int{}}, api.ErrArg)
	expectWrong(t, api.Circuit{Gates: make([]api.Gate, most+1), Outs: []int{-1}}, api.ErrLarge)
	expectWrong(t, api.Circuit{Gates: make([]api.Gate, most), Outs: anyOuts(most + 1)}, api.ErrLarge)
}

// Every pair of numbers at the edges, by every kind of gate.
func TestP14Reckoning(t *testing.T) {
	for _, x := range edges() {
		for _, y := range edges() {
			c := api.Circuit{
				Gates: []api.Gate{
					{Kind: api.GInput, A: 2},
					{Kind: api.GConst, N: y},
					{Kind: api.GInput, A: 2},
					{Kind: api.GAdd, A: 0, B: 2},
					{Kind: api.GSub, A: 0, B: 2},
					{Kind: api.GMul, A: 0, B: 2},
					{Kind: api.GScale, A: 0, N: y},
					{Kind: api.GAdd, A: 0, B: 0},
					{Kind: api.GSub, A: 1, B: 1},
					{Kind: api.GMul, A: 1, B: 1},
				},
				Outs: []int{9, 8, 7, 6, 5, 4, 3, 2, 1, 0},
			}
			in := []uint64{x, y}
			expectRun(t, c, in, ran(c, in), api.OK)
		}
	}
}

func TestP14(t *testing.T) {
	for seed := range uint64(3000) {
		d := &drawn{seed}
		c := d.circuit()
		expectAll(t, c)
		n := len(owners(c))
		in := d.list(n)
		expectRun(t, c, in, ran(c, in), api.OK)
		for _, m := range []int{0, n - 1, n + 1, n + 256, 31} {
			if m >= 0 && m != n {
				expectRun(t, c, d.list(m), nil, api.ErrForm)
			}
		}
	}
}

// All gates may be inputs; the longest chain of products is reckoned, too.
func TestP14Greatest(t *testing.T) {
	c := api.Circuit{Gates: anyGates(most), Outs: anyOuts(most)}
	whose := make([]int, most)
	for i := range most {
		whose[i] = 1 + i%9
		c.Gates[i] = api.Gate{Kind: api.GInput, A: whose[i]}
		c.Outs[i] = most - 1 - i
	}
	in := (&drawn{1}).list(most)
	expectInputs(t, c, whose, api.OK)
	expectRun(t, c, in, ran(c, in), api.OK)
	for i := 1; i < most; i++ {
		c.Gates[i] = api.Gate{Kind: api.GMul, A: i - 1, B: i - 1}
	}
	expectRun(t, c, []uint64{top - 1}, ran(c, []uint64{top - 1}), api.OK)
}

func TestP15Examples(t *testing.T) {
	const text = "input 9\nconst 7\nadd 0 1\nsub 1 0\nmul 2 3\nscale 4 2\ninput 1\n" +
		"out 6\nout 5\nout 4\nout 3\nout 2\nout 1\nout 0\nout 5\n"
	c := oneOfEach()
	expectPrint(t, c, text, api.OK)
	c.Gates[5].N = 2
	expectParse(t, text, c, 0, api.OK)

	for n, s := range map[uint64]string{0: "0", 10: "10", p - 1: "2147483646", p: "0", p + 1: "1", top: "3"} {
		c := api.Circuit{Gates: []api.Gate{{Kind: api.GConst, N: n}, {Kind: api.GScale, N: n}}, Outs: []int{1}}
		expectPrint(t, c, "const "+s+"\nscale 0 "+s+"\nout 1\n", api.OK)
	}
	for s, n := range map[string]uint64{"0": 0, "10": 10, "2147483646": p - 1, "2147483647": 0, "2147483648": 1, "9999999999": 9999999999 % p} {
		c := api.Circuit{Gates: []api.Gate{{Kind: api.GConst, N: n}, {Kind: api.GScale, N: n}}, Outs: []int{1}}
		expectParse(t, "const "+s+"\nscale 0 "+s+"\nout 1\n", c, 0, api.OK)
	}
}

// What is printed is read again; the numbers are told by their rests.
func TestP15RoundTrip(t *testing.T) {
	for seed := range uint64(3000) {
		c := (&drawn{seed}).circuit()
		s := printed(c)
		expectPrint(t, c, s, api.OK)
		for i := range c.Gates {
			c.Gates[i].N %= p
		}
		expectParse(t, s, c, 0, api.OK)
	}
}

// badLines are none of a circuit's, wherever they stand.
func badLines() []string {
	lines := []string{
		"", " ", "\r", "\t", "\x00", "#", "0", "1 1", " 1", " 1 1",
		"input", "input ", "input 1 ", "input  1", " input 1", "input\t1", "input 1\r", "input 1 1", "input1",
		"Input 1", "INPUT 1", "inputs 1", "inpu 1", "input x", "input -1", "input +1", "input 1.", "input 1_0",
		"input 0x1", "input 1e1", "input \xd9\xa1", "input 1\x00", "input \xff", "input /", "input :", "input 1/", "input 1:",
		"const", "const ", "const 01", "const 00", "const 0000000001", "const 99999999999", "const 10000000000",
		"const 1 2", "const -0", "const 1a", "const a1", "const " + strings.Repeat("9", 400), "const 18446744073709551616",
		"add", "add 0", "add 0 ", "add 0 0 ", "add  0 0", "add 0  0", "add 0 0 0", "add 00 0", "add 0 00", "add 0,0",
		"sub", "sub 0", "sub 0 0 0", "sub 0 01", "sub 0 x", "mul", "mul 0", "mul 0 0 0", "mul 01 0", "mul x 0",
		"scale", "scale 0", "scale 0 1 2", "scale 0 01", "scale 00 1", "scale 0 10000000000", "scale 10000000000 1",
		"out", "out ", "out 0 ", "out  0", " out 0", "out 00", "out 0 0", "out x", "out -1", "Out 0", "outs 0", "out 10000000000",
		"div 0 0", "plus 0 1", "nil", "GInput 1",
	}
	return lines
}

func TestP15Syntax(t *testing.T) {
	const gates, outs = "input 1\nadd 0 0\n", "out 0\nout 1\n"
	for _, line := range badLines() {
		for _, end := range []string{"", "\n", "\n" + gates + outs, "\nx\n"} {
			if line+end != "" {
				expectParse(t, line+end, api.Circuit{}, 1, api.ErrSyntax)
				expectParse(t, gates+line+end, api.Circuit{}, 3, api.ErrSyntax)
				expectParse(t, gates+outs+line+end, api.Circuit{}, 5, api.ErrSyntax)
			}
		}
	}
	// A gate behind an out is wrong, be there gates ahead or not.
	for _, line := range []string{"input 1", "const 1", "add 0 0", "sub 0 0", "mul 0 0", "scale 0 1", "input 10", "add 9 9"} {
		expectParse(t, gates+outs+line+"\n", api.Circuit{}, 5, api.ErrSyntax)
		expectParse(t, gates+outs+line+"\n"+outs, api.Circuit{}, 5, api.ErrSyntax)
		expectParse(t, "out 0\n"+line+"\n", api.Circuit{}, 2, api.ErrSyntax)
	}
	// The last line, too, has a byte 10 behind it.
	expectParse(t, gates+"out 0", api.Circuit{}, 3, api.ErrSyntax)
	expectParse(t, gates+"out 0\nout 1", api.Circuit{}, 4, api.ErrSyntax)
	expectParse(t, gates+"out 0\n\n", api.Circuit{}, 4, api.ErrSyntax)
	expectParse(t, gates+"out 0\n ", api.Circuit{}, 4, api.ErrSyntax)
}

// Check's error is told when all has been read, and at no line.
func TestP15CheckBehindAll(t *testing.T) {
	wrong := map[string]api.Errno{
		"":                                          api.ErrArg,
		"input 1\n":                                 api.ErrArg,
		"out 0\n":                                   api.ErrArg,
		"input 0\nout 0\n":                          api.ErrArg,
		"input 10\nout 0\n":                         api.ErrArg,
		"input 4294967297\nout 0\n":                 api.ErrArg,
		"input 9999999999\nout 0\n":                 api.ErrArg,
		"add 0 0\nout 0\n":                          api.ErrArg,
		"input 1\nadd 0 1\nout 0\n":                 api.ErrArg,
		"input 1\nadd 1 0\nout 0\n":                 api.ErrArg,
		"input 1\nmul 2147483647 0\nout 0\n":        api.ErrArg,
		"input 1\nsub 0 4294967296\nout 0\n":        api.ErrArg,
		"input 1\nscale 1 1\nout 0\n":               api.ErrArg,
		"input 1\nout 1\n":                          api.ErrArg,
		"input 1\nout 4294967296\n":                 api.ErrArg,
		"input 1\nout 2147483647\n":                 api.ErrArg,
		strings.Repeat("input 1\n", 31) + "out 0\n": api.ErrLarge,
		strings.Repeat("input 0\n", 31) + "out 0\n": api.ErrLarge,
		strings.Repeat("input 1\n", 31):             api.ErrArg,
		"input 1\n" + strings.Repeat("out 0\n", 31): api.ErrLarge,
		strings.Repeat("out 0\n", 31):               api.ErrArg,
	}
	for s, f := range wrong {
		expectParse(t, s, api.Circuit{}, 0, f)
		if s != "" {
			lines := strings.Count(s, "\n")
			expectParse(t, s+"x", api.Circuit{}, lines+1, api.ErrSyntax)
		}
	}
	for n := 29; n <= 32; n++ {
		for _, s := range []string{strings.Repeat("input 1\n", n) + "out 28\n", "input 1\n" + strings.Repeat("out 0\n", n)} {
			c, line, e := parsed(s)
			expectParse(t, s, c, line, e)
		}
	}
}

// A text that is too long is told ahead of all else.
func TestP15Large(t *testing.T) {
	const right = "input 1\nout 0\n"
	for _, s := range []string{"x\n", "input 1\n", right, "\n", "x"} {
		long := strings.Repeat(s, api.MaxText)
		for _, n := range []int{api.MaxText + 1, api.MaxText + 2, api.MaxText + 256} {
			if n <= len(long) {
				expectParse(t, long[:n], api.Circuit{}, 0, api.ErrLarge)
			}
		}
		c, line, e := parsed(long[:api.MaxText])
		expectParse(t, long[:api.MaxText], c, line, e)
		if e == api.ErrLarge && s != "input 1\n" {
			t.Errorf("%q: no other error of 2048 bytes", s)
		}
	}
	expectParse(t, strings.Repeat("x", api.MaxText), api.Circuit{}, 1, api.ErrSyntax)
	expectParse(t, right+strings.Repeat("\n", api.MaxText-len(right)), api.Circuit{}, 3, api.ErrSyntax)
	expectParse(t, strings.Repeat("out 1\n", 340)+"out 1234", api.Circuit{}, 341, api.ErrSyntax)
	expectParse(t, strings.Repeat("out 1\n", 340)+"out 123\n", api.Circuit{}, 0, api.ErrArg)
	expectParse(t, strings.Repeat("out 1\n", 340)+"out 1234\n", api.Circuit{}, 0, api.ErrLarge)
	expectParse(t, strings.Repeat("x", 1<<20), api.Circuit{}, 0, api.ErrLarge)
}

// Texts with one byte more, one less, or another one, held against parsed.
func TestP15OtherBytes(t *testing.T) {
	texts := []string{"input 1\ninput 2\nmul 0 1\nconst 7\nsub 2 3\nscale 4 30\nadd 5 2\nout 6\nout 0\n", "const 2147483647\nout 0\n"}
	for _, s := range texts {
		for i := range len(s) + 1 {
			for _, b := range []byte("\x00\t\n\r 0129+-_.,/:abx#\x7f\x80\xff") {
				others := []string{s[:i] + string([]byte{b}) + s[i:]}
				if i < len(s) {
					others = append(others, s[:i]+s[i+1:], s[:i]+string([]byte{b})+s[i+1:])
				}
				for _, other := range others {
					c, line, e := parsed(other)
					expectParse(t, other, c, line, e)
				}
			}
		}
	}
}

// Lines of all kinds in any order, held against parsed. Most of them have as
// many numbers as they must, so that there are circuits among them.
func TestP15AnyLines(t *testing.T) {
	gates := []string{"input 1", "const 2", "add 0 0", "sub 1 0", "mul 0 1", "scale 0 2", "mul 2 0"}
	others := []string{"input 0", "add 0", "const 1 2", "out 0", "out 1", "out 2", "x"}
	found := map[api.Errno]int{}
	for seed := range uint64(20000) {
		d := &drawn{seed}
		s := ""
		for range d.below(6) {
			if d.below(8) == 0 {
				s += others[d.below(len(others))] + "\n"
			} else {
				s += gates[d.below(len(gates))] + "\n"
			}
		}
		for range d.below(4) {
			s += "out " + strconv.Itoa(d.below(3)) + "\n"
		}
		c, line, e := parsed(s)
		found[e]++
		expectParse(t, s, c, line, e)
	}
	if found[api.OK] < 100 || found[api.ErrArg] < 100 || found[api.ErrSyntax] < 100 {
		t.Errorf("too few of a kind: %v", found)
	}
}

// mark stands in the room behind what is handed in.
const mark = 777

func roomy[T any](a []T, marks ...T) []T {
	return append(slices.Clone(a), marks...)[:len(a)]
}

func untouched[T comparable](list, a []T, marks ...T) bool {
	return slices.Equal(list[:len(a)+len(marks)], append(slices.Clone(a), marks...))
}

// scribble writes over all of a list, its spare room included.
func scribble[T any](a []T, x T) {
	a = a[:cap(a)]
	for i := range a {
		a[i] = x
	}
}

// checkMemory holds that nothing handed in is changed, that no answer shares
// memory with it, and that what is asked again is answered alike.
func checkMemory(t *testing.T, c api.Circuit, in []uint64) {
	t.Helper()
	markGate := api.Gate{Kind: mark, A: mark, B: mark, N: mark}
	rc := api.Circuit{Gates: roomy(c.Gates, markGate, markGate), Outs: roomy(c.Outs, mark, mark)}
	rin := roomy(in, mark, mark)
	handed := func() bool {
		return untouched(rc.Gates, c.Gates, markGate, markGate) && untouched(rc.Outs, c.Outs, mark, mark) && untouched(rin, in, mark, mark)
	}
	var firsts [2]string
	for i := range firsts {
		check := circuit.Check(rc)
		whose, e := circuit.Inputs(rc)
		told, f := circuit.Run(rc, rin)
		text, g := circuit.Print(rc)
		firsts[i] = fmt.Sprint(check, whose, e, told, f, text, g)
		if !handed() {
			t.Errorf("%d, %d: changed", c, in)
		}
		scribble(whose, 666)
		scribble(told, 666)
		if !handed() {
			t.Errorf("%d, %d: an answer shares memory", c, in)
		}
	}
	if firsts[0] != firsts[1] {
		t.Errorf("%d, %d: first %s, then %s", c, in, firsts[0], firsts[1])
	}
}

// checkText holds of a text what checkMemory holds of a circuit, and that the
// gates and the Outs that are told share nothing.
func checkText(t *testing.T, s string) {
	t.Helper()
	right, line, f := parsed(s)
	for range 2 {
		expectParse(t, s, right, line, f)
		c, _, _ := circuit.Parse(s)
		scribble(c.Gates, api.Gate{Kind: 666, A: 666, B: 666, N: 666})
		if !slices.Equal(c.Outs, right.Outs) {
			t.Errorf("%q: gates and Outs share memory", s)
		}
		scribble(c.Outs, 666)
	}
}

func TestP2Memory(t *testing.T) {
	for seed := range uint64(500) {
		d := &drawn{seed}
		c := d.circuit()
		n := len(owners(c))
		checkMemory(t, c, d.list(n))
		checkMemory(t, c, d.list(n+1))
		checkMemory(t, withGate(c, len(c.Gates)-1, api.Gate{Kind: 7}), d.list(n))
		checkText(t, printed(c))
		checkText(t, printed(c)+"x")
	}
	checkMemory(t, api.Circuit{}, nil)
	checkMemory(t, api.Circuit{Gates: anyGates(most + 1), Outs: anyOuts(most + 1)}, nil)
	checkText(t, "")
}

// readCircuit makes a circuit of any bytes, right or wrong.
func readCircuit(bytes []byte) api.Circuit {
	var c api.Circuit
	for len(bytes) >= 4 && bytes[0] < 200 {
		g := api.Gate{Kind: int(bytes[0] % 8), A: int(int8(bytes[1])), B: int(int8(bytes[2])), N: uint64(bytes[3]) * (top / 255)}
		c.Gates, bytes = append(c.Gates, g), bytes[4:]
	}
	for _, b := range bytes {
		c.Outs = append(c.Outs, int(b)-200)
	}
	return c
}

func FuzzP1P2(f *testing.F) {
	f.Add("input 1\nout 0\n", []byte{1, 1, 0, 0, 200}, 1)
	f.Add("input 1\ninput 2\nmul 0 1\nout 2\n", []byte{1, 1, 0, 0, 2, 0, 0, 255, 3, 0, 1, 0, 6, 2, 0, 9, 203, 202}, 1)
	f.Add("const 9999999999\nscale 0 2147483648\nout 1\n", []byte{2, 0, 0, 5, 4, 0, 0, 0, 5, 1, 0, 0, 202}, 0)
	f.Add("out 0\ninput 1\n", []byte{}, 0)
	f.Add("const 01\n", []byte{7, 255, 255, 255, 199}, 3)
	f.Fuzz(func(t *testing.T, s string, bytes []byte, n int) {
		checkText(t, s)
		c := readCircuit(bytes)
		in := (&drawn{uint64(len(s))}).list(min(max(n, 0), 40))
		checkMemory(t, c, in)
		expectAll(t, c)
		if checked(c) == api.OK {
			in = in[:0]
			for i := range owners(c) {
				in = append(in, edges()[i%len(edges())])
			}
			expectRun(t, c, in, ran(c, in), api.OK)
		}
	})
}
