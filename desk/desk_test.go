package desk_test

import (
	"fmt"
	"regexp"
	"slices"
	"strconv"
	"strings"
	"testing"

	"sharecroft/api"
	"sharecroft/circuit"
	"sharecroft/decode"
	"sharecroft/desk"
	"sharecroft/engine"
	"sharecroft/keys"
	"sharecroft/shamir"
)

const (
	product  = "circuit input 1\ncircuit input 2\ncircuit mul 0 1\ncircuit out 2\n"
	fourOk   = "ok\nok\nok\nok\n"
	mostText = api.MaxText
)

func expect(t *testing.T, script, right string) {
	t.Helper()
	if got := desk.Run(script); got != right {
		t.Errorf("%.300q: %.300q, not %.300q", script, got, right)
	}
}

// expectEach does lines one behind the other at one desk; a pair is a line and
// its answer.
func expectEach(t *testing.T, pairs ...[2]string) {
	t.Helper()
	script, right := "", ""
	for _, pair := range pairs {
		script += pair[0] + "\n"
		right += pair[1] + "\n"
	}
	got, all := strings.Split(desk.Run(script), "\n"), strings.Split(right, "\n")
	for i := range max(len(got), len(all)) {
		if i >= len(got) || i >= len(all) || got[i] != all[i] {
			t.Errorf("%.500q: at answer %d %.300q, not %.300q", script, i+1, got[min(i, len(got)):], all[min(i, len(all)):])
			return
		}
	}
}

// clerk tells what each line is to be answered with: it reads a line by regular
// expressions, and asks the packages.
type clerk struct {
	text string
	keys *keys.Keys
}

// forms of lines whose words have one blank between; N stands for a number, and
// K marks the commands that need keys.
func forms() map[string]string {
	return map[string]string{
		"deal":     `deal N N( N)*`,
		"open":     `open N( N N)*`,
		"circuit":  `circuit .+`,
		"clear":    `clear`,
		"show":     `show`,
		"run":      `run( N)*`,
		"work":     `work N N( N)* /( N)*`,
		"keys":     `keys N N`,
		"gen":      `gen( N)*K`,
		"refresh":  `refresh N( N)*K`,
		"tweak":    `tweak N NK`,
		"combine":  `combine N N N NK`,
		"multiply": `multiply N N( N)*K`,
		"key":      `key NK`,
		"drop":     `drop NK`,
	}
}

func commands() []string {
	return []string{"deal", "open", "circuit", "clear", "show", "run", "work", "keys", "gen", "refresh", "tweak", "combine", "multiply", "key", "drop"}
}

func needsKeys(command string) bool { return strings.HasSuffix(forms()[command], "K") }

var patterns = func() map[string]*regexp.Regexp {
	made := map[string]*regexp.Regexp{}
	for command, form := range forms() {
		form = strings.TrimSuffix(form, "K")
		form = strings.ReplaceAll(form, "N", `(?:0|[1-9][0-9]{0,9})`)
		made[command] = regexp.MustCompile(`(?s)^` + form + `$`)
	}
	return made
}()

func wrong(e api.Errno) string { return fmt.Sprintf("error %d\n", e) }

func answered(e api.Errno, things ...any) string {
	if e != api.OK {
		return wrong(e)
	}
	return strings.TrimRight(fmt.Sprintln(things...), " \n") + "\n"
}

// listed is numbers with a blank between.
func listed(numbers []uint64) string { return strings.Trim(fmt.Sprint(numbers), "[]") }

func numbersOf(words []string) []uint64 {
	var list []uint64
	for _, word := range words {
		x, err := strconv.ParseUint(word, 10, 64)
		if err != nil {
			panic(err)
		}
		list = append(list, x)
	}
	return list
}

func (c *clerk) do(line string) string {
	words := strings.FieldsFunc(line, func(r rune) bool { return r == ' ' })
	if len(words) == 0 || strings.HasPrefix(words[0], "#") {
		return ""
	}
	command := words[0]
	pattern := patterns[command]
	switch {
	case pattern == nil, !pattern.MatchString(strings.Join(words, " ")):
		return wrong(api.ErrSyntax)
	case needsKeys(command):
		if c.keys == nil {
			return wrong(api.ErrNone)
		}
		return c.doKeys(command, numbersOf(words[1:]))
	case command == "circuit":
		more := c.text + strings.Join(words[1:], " ") + "\n"
		if len(more) > mostText {
			return wrong(api.ErrLarge)
		}
		c.text = more
		return "ok\n"
	case command == "show" || command == "run" || command == "work":
		return c.doCircuit(command, words[1:])
	}
	return c.doPlain(command, numbersOf(words[1:]))
}

func (c *clerk) doPlain(command string, x []uint64) string {
	switch command {
	case "deal":
		list, e := shamir.Deal(x[1], x[2:], int(x[0]))
		return answered(e, listed(list))
	case "open":
		var l []api.Share
		for pair := range slices.Chunk(x[1:], 2) {
			l = append(l, api.Share{At: int(pair[0]), Y: pair[1]})
		}
		secret, bad, e := decode.Open(int(x[0]), l)
		return answered(e, secret, strings.Trim(fmt.Sprint(bad), "[]"))
	case "keys":
		k, e := keys.New(int(x[0]), int(x[1]))
		if e == api.OK {
			c.keys = k
		}
		return answered(e, "ok")
	}
	c.text = ""
	return "ok\n"
}

func (c *clerk) doCircuit(command string, words []string) string {
	made, line, e := circuit.Parse(c.text)
	if e != api.OK {
		return fmt.Sprintf("error %d %d\n", e, line)
	}
	var list []uint64
	switch command {
	case "show":
		text, e := circuit.Print(made)
		return answered(e, text+"ok")
	case "run":
		list, e = circuit.Run(made, numbersOf(words))
	case "work":
		slash := slices.Index(words, "/")
		x := numbersOf(words[:slash])
		list, _, e = engine.Run(made, int(x[0]), int(x[1]), x[2:], numbersOf(words[slash+1:]))
	}
	return answered(e, listed(list))
}

func (c *clerk) doKeys(command string, x []uint64) string {
	var told any = "ok"
	var e api.Errno
	switch command {
	case "gen":
		told, e = c.keys.Gen(x)
	case "refresh":
		e = c.keys.Refresh(int(x[0]), x[1:])
	case "tweak":
		told, e = c.keys.Tweak(int(x[0]), x[1])
	case "combine":
		told, e = c.keys.Combine(int(x[0]), int(x[1]), x[2], x[3])
	case "multiply":
		told, e = c.keys.Multiply(int(x[0]), int(x[1]), x[2:])
	case "key":
		told, e = c.keys.Open(int(x[0]))
	case "drop":
		e = c.keys.Drop(int(x[0]))
	}
	return answered(e, told)
}

// answers to a whole text.
func answers(text string) string {
	var lines []string
	behind := 0
	for i := range len(text) {
		if text[i] == 10 {
			lines = append(lines, text[behind:i])
			behind = i + 1
		}
	}
	if behind < len(text) {
		lines = append(lines, text[behind:])
	}
	if len(text) > 65536 || len(lines) > 200 {
		return "error 2\n"
	}
	all, c := "", &clerk{}
	for _, line := range lines {
		all += c.do(line)
	}
	return all
}

func TestP22Example(t *testing.T) {
	expect(t, "deal 3 5 2\n", "7 9 11\n")
	expect(t, "deal 3 5 2", "7 9 11\n")
	expect(t, "deal 3 5 2\nkeys 1 0\ngen 7\nkey 1\n", "7 9 11\nok\n1\n7\n")
	expectEach(t, [][2]string{
		{"deal 3 5 2", "7 9 11"},
		{"open 0 1 5 2 6 3 5", "5 2"},
		{"circuit input 1", "ok"},
		{"circuit input 2", "ok"},
		{"circuit mul 0 1", "ok"},
		{"circuit out 2", "ok"},
		{"run 3 4", "12"},
		{"work 3 1 3 4 / 1 2 3 4 5", "12"},
		{"run 3", "error 5"},
		{"gen 5", "error 4"},
		{"keys 1 0", "ok"},
		{"gen 5", "1"},
		{"tweak 1 4", "2"},
		{"key 2", "9"},
	}...)
}

func TestP22Lines(t *testing.T) {
	for script, right := range map[string]string{
		"":                     "",
		"\n":                   "",
		"\n\n\n":               "",
		"clear":                "ok\n",
		"clear\n":              "ok\n",
		"clear\n\n":            "ok\n",
		"\nclear":              "ok\n",
		"clear\nclear":         "ok\nok\n",
		"clear\n\n\nx\nclear ": "ok\nerror 3\nok\n",
		"clear\r\nclear":       "error 3\nok\n",
		"clear\rclear\n":       "error 3\n",
		"clear\x00\n":          "error 3\n",
		"\x00":                 "error 3\n",
		"clear\vclear":         "error 3\n",
		"clear\u2028clear":     "error 3\n",
		"\xff\n\xfe\n":         "error 3\nerror 3\n",
	} {
		expect(t, script, right)
	}
}

func TestP22Words(t *testing.T) {
	for script, right := range map[string]string{
		"  deal   3 5    2  ":  "7 9 11\n",
		"deal 3 5 2 ":          "7 9 11\n",
		"deal\t3 5 2":          "error 3\n",
		"deal 3\t5 2":          "error 3\n",
		"\tclear":              "error 3\n",
		"clear\t":              "error 3\n",
		"\t":                   "error 3\n",
		"\r\n":                 "error 3\n",
		"\u00a0clear":          "error 3\n",
		"clear\u00a0":          "error 3\n",
		" ":                    "",
		"      \n   \n":        "",
		"#":                    "",
		"# clear":              "",
		"#clear":               "",
		"   #clear\nclear":     "ok\n",
		"##\n  # #\n#\x00\xff": "",
		"clear #":              "error 3\n",
		"clear # no":           "error 3\n",
		"x#":                   "error 3\n",
		"deal 3 5 2 # no":      "error 3\n",
		"Clear":                "error 3\n",
		"CLEAR":                "error 3\n",
		"cle ar":               "error 3\n",
		"clearx":               "error 3\n",
		"clea":                 "error 3\n",
		"ok":                   "error 3\n",
		"error 3":              "error 3\n",
		"/":                    "error 3\n",
		"5":                    "error 3\n",
		"input 1":              "error 3\n",
		"shares 1":             "error 3\n",
		"key s 3 1":            "error 3\n",
		"quit":                 "error 3\n",
	} {
		expect(t, script, right)
	}
}

// The bound of bytes, and that of lines, of which all are counted; what is too
// long is not done at all.
func TestP22Large(t *testing.T) {
	comment := "clear\n#" + strings.Repeat("x", 65536-7)
	expect(t, comment, "ok\n")
	expect(t, comment[:65535], "ok\n")
	expect(t, comment+"x", "error 2\n")
	expect(t, comment+"\n", "error 2\n")
	expect(t, comment[:65535]+"\n", "ok\n")
	expect(t, strings.Repeat(" ", 65536), "")
	expect(t, strings.Repeat(" ", 65537), "error 2\n")
	expect(t, strings.Repeat("x", 65536), "error 3\n")
	expect(t, strings.Repeat("x", 1<<22), "error 2\n")
	expect(t, strings.Repeat("\n", 1<<22), "error 2\n")
	for _, line := range []string{"clear", "", " ", "# no", "x"} {
		answer := answers(line)
		for _, n := range []int{199, 200} {
			many := strings.Repeat(line+"\n", n)
			expect(t, many, strings.Repeat(answer, n))
			expect(t, many[:len(many)-1], strings.Repeat(answer, n))
		}
		many := strings.Repeat(line+"\n", 200)
		for _, more := range []string{"\n", "clear", "clear\n", "#", " ", "x\n", "\n\n"} {
			expect(t, many+more, "error 2\n")
			expect(t, more+"\n"+many, "error 2\n")
		}
		expect(t, strings.Repeat(line+"\n", 457), "error 2\n")
	}
	// Lines of which each is long, and lines of which each may have many numbers.
	expect(t, "run"+strings.Repeat(" 1", 32766), "error 1 0\n")
	expect(t, "run"+strings.Repeat(" 1", 32767), "error 2\n")
	expect(t, product+"run 1 2"+strings.Repeat(" 1", 30000), fourOk+"error 5\n")
}

// right are lines that can be read, at least one of each command.
func right() []string {
	return []string{
		"deal 3 5 2", "deal 3 5", "deal 0 0", "deal 9999999999 9999999999 9999999999", "deal 9 1 2 3 4 5", "deal 9 1 2 3 4 5 6 7",
		"open 1 1 7 2 9", "open 1", "open 0 1 5", "open 9999999999 0 0", "open 1 1 1 1 1 1 1",
		"circuit input 1", "circuit x", "circuit #", "circuit circuit", "circuit 05", "circuit / /", "circuit \xff\t",
		"clear", "show", "run", "run 1", "run 1 2 3", "run 0 9999999999",
		"work 3 1 / ", "work 3 1 /", "work 3 1 3 4 / 1 2 3 4 5", "work 3 1 3 / ", "work 0 0 / 0",
		"keys 3 1", "keys 0 0", "keys 9999999999 1",
		"gen", "gen 1", "gen 1 2 3 4 5 6", "refresh 1", "refresh 1 2 3 4", "tweak 1 2", "combine 1 2 3 4",
		"multiply 1 2", "multiply 1 2 3 4 5", "key 1", "key 0", "drop 1", "drop 9999999999",
	}
}

// unread are lines that can't be read.
func unread() []string {
	return []string{
		"deal", "deal 3", "open", "open 1 1", "open 1 1 7 2", "open 1 1 2 3 4 5",
		"circuit", "circuit   ", "clear 1", "clear x", "clear clear", "show 1", "show show",
		"work", "work /", "work 1", "work 3 /", "work 3 1", "work 3 / 1", "work / 3 1", "work / 3 1 /", "work 3 1 3 4", "work 3 1 3 4 1 2 3 4 5",
		"work 3 1 / /", "work 3 1 3 4 / 1 / 2", "work 3 1 // 1", "work 3 1/ 1", "work 3 1 /1", "work 3 1 3 4/1 2",
		"keys", "keys 3", "keys 3 1 1", "refresh", "tweak", "tweak 1", "tweak 1 2 3",
		"combine", "combine 1", "combine 1 2", "combine 1 2 3", "combine 1 2 3 4 5",
		"multiply", "multiply 1", "key", "key 1 2", "drop", "drop 1 2",
	}
}

// noNumbers are words that are none.
func noNumbers() []string {
	return []string{"00", "01", "007", "0000000000", "0000000001", "10000000000", "99999999999", "18446744073709551617", "-1", "+1", "-0", "1.", "1.0", "1e1", "0x1", "1_0", "x", "1x", "x1", ",", "1,", "#", "#1", "\t1", "1\t", "1\r", "\x001", "\xff", "１", "٣", "N", ".."}
}

// settings of a desk: without anything, with a circuit, with keys, with both.
func settings() []string {
	const some = "keys 3 1\ngen 1 9 2 8 3 7\ngen 1 2 3 4 5 6\n"
	return []string{"", product, some, "keys 1 0\n", product + some, "circuit x\n" + some}
}

// What can't be read is told so whatever there is at the desk, ahead of all else,
// and changes nothing; what can be read is never told so.
func TestP22Syntax(t *testing.T) {
	const look = "\nshow\nkey 1\nkey 2\nkey 3"
	for _, begin := range settings() {
		first, last := answers(begin), answers(begin + look)[len(answers(begin)):]
		lines := unread()
		for _, line := range right() {
			expect(t, begin+line, answers(begin+line))
			words := strings.Fields(line)
			if strings.HasPrefix(desk.Run(begin + line)[len(first):], "error 3\n") {
				t.Errorf("%q: can't be read", begin+line)
			}
			for i, word := range words[1:] {
				for _, other := range noNumbers() {
					if words[0] != "circuit" && word != "/" {
						with := slices.Clone(words)
						with[i+1] = other
						lines = append(lines, strings.Join(with, " "))
					}
				}
			}
			for _, other := range append(noNumbers(), "") {
				lines = append(lines, other+line[1:], words[0]+other+"x "+strings.Join(words[1:], " "))
			}
		}
		for _, line := range lines {
			if !strings.HasPrefix(line, "#") {
				expect(t, begin+line+look, first+"error 3\n"+last)
			}
		}
	}
}

// Each count of numbers from none to some, of each command.
func TestP22Counts(t *testing.T) {
	least := map[string]int{"deal": 2, "open": 1, "clear": 0, "show": 0, "run": 0, "keys": 2, "gen": 0, "refresh": 1, "tweak": 2, "combine": 4, "multiply": 2, "key": 1, "drop": 1}
	more := map[string]bool{"deal": true, "open": true, "run": true, "gen": true, "refresh": true, "multiply": true}
	for command, n := range least {
		for count := range 20 {
			line := command + strings.Repeat(" 1", count)
			can := count == n || count > n && more[command]
			can = can && (command != "open" || count%2 == 1)
			for _, begin := range settings() {
				got := strings.TrimPrefix(desk.Run(begin+line), answers(begin))
				if (got != "error 3\n") != can && !strings.HasPrefix(got, "error 3 ") {
					t.Errorf("%q: %q", begin+line, got)
				}
			}
		}
	}
}

func TestP22NoKeys(t *testing.T) {
	for _, line := range right() {
		if needsKeys(strings.Fields(line)[0]) {
			expect(t, line, "error 4\n")
			expect(t, "keys 2 1\n"+line, "error 1\nerror 4\n")
			expect(t, product+line, fourOk+"error 4\n")
		}
	}
}

func TestP22Deal(t *testing.T) {
	expectEach(t, [][2]string{
		{"deal 3 5 2", "7 9 11"},
		{"deal 1 5", "5"},
		{"deal 9 5", "5 5 5 5 5 5 5 5 5"},
		{"deal 2 2147483646 1", "0 1"},
		{"deal 2 2147483647 2147483648", "1 2"},
		{"deal 1 9999999999", "1410065411"},
		{"deal 5 1 0 0 0 1", "2 17 82 257 626"},
		{"deal 4 1 0 0 0 1", "error 1"},
		{"deal 9 1 0 0 0 0 1", "error 1"},
		{"deal 1 5 2", "error 1"},
		{"deal 10 5 2", "error 1"},
		{"deal 0 5", "error 1"},
		{"deal 4294967299 5 2", "error 1"},
	}...)
}

func TestP22Open(t *testing.T) {
	expectEach(t, [][2]string{
		{"open 1 1 7 2 9", "5"},
		{"open 1 2 9 1 7", "5"},
		{"open 0 1 5 2 6 3 5", "5 2"},
		{"open 0 3 2147483652 9 7 1 5 8 7 5 5", "5 8 9"},
		{"open 0 1 4294967294", "0"},
		{"open 1 1 7 2 9 3 12 4 13", "5 3"},
		{"open 0 1 1 2 2 3 3 4 4 5 9 6 9 7 9 8 9 9 9", "9 1 2 3 4"},
		{"open 1 1 7 2 9 3 12", "error 6"},
		{"open 0 1 1 2 2", "error 6"},
		{"open 1", "error 4"},
		{"open 1 1 7", "error 4"},
		{"open 5", "error 1"},
		{"open 5 1 7", "error 1"},
		{"open 4294967296 1 5", "error 1"},
		{"open 0 0 5", "error 5"},
		{"open 0 10 5", "error 5"},
		{"open 0 4294967297 5", "error 5"},
		{"open 3 1 5 1 5", "error 5"},
	}...)
}

func TestP22Circuit(t *testing.T) {
	expectEach(t, [][2]string{
		{"show", "error 1 0"},
		{"circuit input 1", "ok"},
		{"show", "error 1 0"},
		{"  circuit   input    2 ", "ok"},
		{"circuit  const 9999999999", "ok"},
		{"circuit mul 0 1", "ok"},
		{"circuit scale 3 2147483648", "ok"},
		{"circuit out 4", "ok"},
		{"show", "input 1\ninput 2\nconst 1410065411\nmul 0 1\nscale 3 1\nout 4\nok"},
		{"run 3 4", "12"},
		{"circuit out 2", "ok"},
		{"run 3 4", "12 1410065411"},
		{"circuit", "error 3"},
		{"run 2147483650 4", "12 1410065411"},
		{"run 3", "error 5"},
		{"run", "error 5"},
		{"run 3 4 5", "error 5"},
		{"circuit out 05", "ok"},
		{"run 3 4", "error 3 8"},
		{"run 3", "error 3 8"},
		{"show", "error 3 8"},
		{"work 3 1 3 4 / 1 2 3 4 5", "error 3 8"},
		{"work 0 0 /", "error 3 8"},
		{"run 3 x", "error 3"},
		{"work 3 1 3 4", "error 3"},
		{"clear", "ok"},
		{"run 3 4", "error 1 0"},
		{"clear", "ok"},
		{"circuit # input 1", "ok"},
		{"show", "error 3 1"},
		{"clear", "ok"},
		{"circuit circuit input 1", "ok"},
		{"run", "error 3 1"},
		{"clear", "ok"},
		{"circuit const 7", "ok"},
		{"circuit out 0", "ok"},
		{"circuit const 7", "ok"},
		{"show", "error 3 3"},
		{"clear", "ok"},
		{"circuit const 7", "ok"},
		{"circuit out 1", "ok"},
		{"show", "error 1 0"},
		{"circuit out 0", "ok"},
		{"work 1 0 /", "error 1 0"},
		{"clear", "ok"},
		{"circuit const 7", "ok"},
		{"circuit out 0", "ok"},
		{"run", "7"},
		{"work 1 0 /", "7"},
		{"show", "const 7\nout 0\nok"},
		{"show", "const 7\nout 0\nok"},
	}...)
	// More gates than there may be.
	expect(t, strings.Repeat("circuit const 1\n", 31)+"circuit out 0\nshow\nrun\nwork 1 0 /", strings.Repeat("ok\n", 32)+strings.Repeat("error 2 0\n", 3))
	expect(t, strings.Repeat("circuit const 1\n", 30)+"circuit out 29\nrun", strings.Repeat("ok\n", 31)+"1\n")
}

// The text has at most 2048 bytes, those behind each line included; a line that
// doesn't go in any more leaves it as it was.
func TestP22CircuitLarge(t *testing.T) {
	for n := mostText - 30; n <= mostText+3; n++ {
		word := strings.Repeat("x", n-1)
		for _, line := range []string{word, word[:9] + " " + word[10:], word[:9] + "     " + word[10:]} {
			if n <= mostText {
				expect(t, "circuit "+line+"\nshow", "ok\nerror 3 1\n")
			} else {
				expect(t, "circuit "+line+"\nshow", "error 2\nerror 1 0\n")
			}
		}
	}
	expect(t, "circuit "+strings.Repeat("x", 65536-8), "error 2\n")
	expect(t, "circuit "+strings.Repeat("x ", 1024)+"\ncircuit x\nshow", "ok\nerror 2\nerror 3 1\n")
	expect(t, "circuit "+strings.Repeat("x ", 1023)+"\ncircuit x\ncircuit x", "ok\nok\nerror 2\n")
	begin := product + "circuit " + strings.Repeat("x", mostText-30-6-1) + "\n"
	expectEach(t, [][2]string{
		{begin + "circuit 123456", fourOk + "ok\nerror 2"},
		{"show", "error 3 5"},
		{"circuit 12345", "ok"},
		{"circuit 1", "error 2"},
		{"circuit", "error 3"},
		{"run", "error 3 5"},
		{"clear", "ok"},
		{product + "run 3 4", fourOk + "12"},
	}...)
}

func TestP22Work(t *testing.T) {
	expectEach(t, [][2]string{
		{"work 3 1 3 4 / 1 2 3 4 5", "error 1 0"},
		{product + "work 3 1 3 4 / 1 2 3 4 5", fourOk + "12"},
		{"work 3 1 2147483650 9999999999 / 0 2147483647 9999999999 4 5", "2082712586"},
		{"  work  9  0  3  4  /  ", "12"},
		{"work 9 0 3 4 /", "12"},
		{"work 2 0 3 4 /", "12"},
		{"work 1 0 3 4 /", "error 1"},
		{"work 3 1 3 4 / 1", "error 1"},
		{"work 3 1 3 4 /", "error 1"},
		{"work 3 1 3 4 / 1 2 3 4 5 6", "error 1"},
		{"work 2 1 3 4 / 1 2 3 4", "error 1"},
		{"work 10 1 3 4 / 1", "error 1"},
		{"work 9 5 3 4 / 1", "error 1"},
		{"work 0 0 3 4 /", "error 1"},
		{"work 4294967299 1 3 4 / 1 2 3 4 5", "error 1"},
		{"work 3 4294967297 3 4 / 1 2 3 4 5", "error 1"},
		{"work 3 1 3 / 1 2 3 4 5", "error 5"},
		{"work 3 1 / 1", "error 5"},
		{"work 3 1 3 4 5 / 1", "error 5"},
		{"work 2 1 3 / 1", "error 1"},
		{"circuit out 0", "ok"},
		{"work 3 1 3 4 / 1 2 3 4 5", "12 3"},
		{"run 3 4", "12 3"},
	}...)
}

func TestP22Keys(t *testing.T) {
	expectEach(t, [][2]string{
		{"gen 1", "error 4"},
		{"keys 2 1", "error 1"},
		{"key 1", "error 4"},
		{"keys 3 1", "ok"},
		{"key 1", "error 4"},
		{"gen", "error 1"},
		{"gen 1 9 2 8 3 7", "1"},
		{"gen 1 9 2 8 3", "error 1"},
		{"key 1", "6"},
		{"key 0", "error 4"},
		{"key 2", "error 4"},
		{"key 4294967297", "error 4"},
		{"refresh 1 1 0 0", "ok"},
		{"refresh 1 1 0", "error 1"},
		{"refresh 1", "error 1"},
		{"refresh 2 1 0", "error 4"},
		{"key 1", "6"},
		{"tweak 1 4", "2"},
		{"tweak 3 4", "error 4"},
		{"key 2", "10"},
		{"combine 1 2 2 1", "3"},
		{"key 3", "22"},
		{"combine 2 1 2 1", "4"},
		{"key 4", "26"},
		{"combine 1 5 2 1", "error 4"},
		{"combine 5 1 2 1", "error 4"},
		{"multiply 1 2 5 6 7", "5"},
		{"key 5", "60"},
		{"multiply 1 2 5 6", "error 1"},
		{"multiply 1 2", "error 1"},
		{"multiply 1 6 5 6", "error 4"},
		{"drop 5", "ok"},
		{"drop 5", "error 4"},
		{"drop 4294967297", "error 4"},
		{"key 5", "error 4"},
		{"tweak 1 2147483641", "6"},
		{"key 6", "0"},
		{"tweak 1 9999999999", "7"},
		{"key 7", "1410065417"},
		{"tweak 1 0", "8"},
		{"tweak 1 0", "9"},
		{"tweak 1 0", "error 2"},
		{"gen 1 9 2 8 3 7", "error 2"},
		{"combine 1 1 1 1", "error 2"},
		{"multiply 1 1 5 6 7", "error 2"},
		{"multiply 1 1 5 6", "error 1"},
		{"drop 1", "ok"},
		{"combine 2 2 1 1", "10"},
		{"key 10", "20"},
	}...)
}

// New keys take the old ones' place; what keys.New refuses leaves them.
func TestP22KeysAgain(t *testing.T) {
	expectEach(t, [][2]string{
		{"keys 3 1", "ok"},
		{"gen 1 9 2 8 3 7", "1"},
		{"tweak 1 1", "2"},
		{"keys 2 1", "error 1"},
		{"keys 3", "error 3"},
		{"keys 0 0", "error 1"},
		{"keys 10 0", "error 1"},
		{"keys 9 5", "error 1"},
		{"keys 4294967299 1", "error 1"},
		{"keys 3 4294967297", "error 1"},
		{"key 2", "7"},
		{"tweak 1 2", "3"},
		{"keys 1 0", "ok"},
		{"key 1", "error 4"},
		{"key 2", "error 4"},
		{"gen 5", "1"},
		{"key 1", "5"},
		{"gen 1 9 2 8 3 7", "error 1"},
		{"keys 1 0", "ok"},
		{"key 1", "error 4"},
	}...)
}

// The circuit and the keys don't touch each other.
func TestP22Both(t *testing.T) {
	expectEach(t, [][2]string{
		{"keys 1 0", "ok"},
		{"gen 5", "1"},
		{product + "key 1", fourOk + "5"},
		{"clear", "ok"},
		{"key 1", "5"},
		{product + "keys 3 1", fourOk + "ok"},
		{"run 3 4", "12"},
		{"x", "error 3"},
		{"show", "input 1\ninput 2\nmul 0 1\nout 2\nok"},
		{"drop 1", "error 4"},
		{"show", "input 1\ninput 2\nmul 0 1\nout 2\nok"},
	}...)
}

// drawn makes numbers that look as if drawn; each seed has its own.
type drawn struct{ seed uint64 }

func (d *drawn) below(n int) int {
	d.seed = d.seed*6364136223846793005 + 1442695040888963407
	return int((d.seed ^ d.seed>>29) >> 8 % uint64(n))
}

func (d *drawn) pick(words ...string) string { return words[d.below(len(words))] }

// number is, mostly, a small one.
func (d *drawn) number() string {
	if d.below(6) > 0 {
		return strconv.Itoa(d.below(10))
	}
	return d.pick("0", "1", "2147483646", "2147483647", "2147483648", "4294967297", "9999999999")
}

func (d *drawn) numbers(n int) string {
	list := ""
	for range n {
		list += " " + d.number()
	}
	return list
}

// handle is of a key that there may be.
func (d *drawn) handle() string { return " " + strconv.Itoa(1+d.below(8)) }

// line has as many numbers as it is likely to need; n parties of whom few may
// look have keys, perhaps.
func (d *drawn) line(n, few int) string {
	command := d.pick(append(commands(), "clear", "gen", "gen", "combine", "multiply", "run", "work")...)
	parties := fmt.Sprint(" ", n, " ", few)
	switch command {
	case "deal":
		return command + " " + d.pick("3", "4", "5", "9") + d.numbers(1+d.below(6))
	case "open":
		line := "open " + d.pick("0", "0", "0", "1", "2", "5")
		for i := range d.below(8) {
			line += fmt.Sprint(" ", i+1-d.below(30)/29, " ", d.pick("5", "5", "5", "5", d.number()))
		}
		return line
	case "circuit":
		return command + " " + d.pick("", strings.Repeat("x", 2040), "out 2", "out 1", "out 0", "out 3", "out 2", "const"+d.numbers(1))
	case "clear":
		// The circuit is likely to be one that can be run, behind that.
		gate := d.pick("add 0 1", "sub 1 0", "mul 0 1", "mul 0 0", "scale 0"+d.numbers(1))
		return d.pick("clear", "clear x", "clear\ncircuit input 1\ncircuit input 2\ncircuit "+gate+"\ncircuit out 2")
	case "show":
		return command
	case "run":
		return command + d.numbers(d.below(3))
	case "work":
		return command + parties + d.numbers(1+d.below(2)) + " /" + d.numbers(few*2+few*n*d.below(2))
	case "keys":
		return d.pick("# keys", "# keys", "# keys", "keys"+parties, "keys"+d.numbers(2))
	case "gen":
		return command + d.numbers(n*(few+1))
	case "refresh":
		return command + d.handle() + d.numbers(n*few)
	case "tweak":
		return command + d.handle() + d.numbers(1)
	case "combine":
		return command + d.handle() + d.handle() + d.numbers(2)
	case "multiply":
		return command + d.handle() + d.handle() + d.numbers(n*few)
	}
	return command + d.handle()
}

// script is lines of all kinds, of which some have another byte.
func (d *drawn) script() string {
	few := d.below(3)
	n := 2*few + 1 + d.below(2)
	text := ""
	if d.below(4) > 0 {
		text += fmt.Sprintln("keys", n, few)
	}
	for range d.below(50) {
		line := d.line(n, few)
		if d.below(20) == 0 && line != "" {
			at := d.below(len(line) + 1)
			line = line[:at] + d.pick("\t", " ", "0", "1", "x", "/", "#", " 1", "\r", "\xff") + line[at:]
		}
		text += line + "\n"
	}
	return text
}

func TestP22AnyScripts(t *testing.T) {
	found := map[string]int{}
	for seed := range uint64(3000) {
		script := (&drawn{seed}).script()
		expect(t, script, answers(script))
		c := &clerk{}
		for _, line := range strings.Split(script, "\n") {
			if answer := c.do(line); answer != "" {
				command, _, _ := strings.Cut(strings.TrimLeft(line, " "), " ")
				if !strings.HasPrefix(answer, "error") {
					answer = "right"
				}
				found[command+" "+strings.Fields(answer)[0]]++
			}
		}
	}
	for _, command := range commands() {
		if found[command+" right"] < 100 || found[command+" error"] < 30 {
			t.Errorf("%s: %d are right, %d are not", command, found[command+" right"], found[command+" error"])
		}
	}
}

// What a circuit tells is what parties tell that work it out together, whatever
// is drawn.
func TestP22RunAndWork(t *testing.T) {
	for seed := range uint64(300) {
		d := &drawn{seed}
		in := d.numbers(2)
		got := desk.Run(product + "run" + in + "\nwork 5 2" + in + " /" + d.numbers(14))
		lines := strings.Split(strings.TrimPrefix(got, fourOk), "\n")
		if len(lines) != 3 || lines[0] != lines[1] || strings.HasPrefix(lines[0], "error") {
			t.Errorf("%s: %q", in, got)
		}
	}
}

// What is dealt is opened again, one wrong number included.
func TestP22DealAndOpen(t *testing.T) {
	for seed := range uint64(300) {
		d := &drawn{seed}
		secret := strconv.Itoa(d.below(1 << 31 >> 1))
		words := strings.Fields(desk.Run("deal 5 " + secret + d.numbers(2)))
		at := d.below(5)
		words[at] = strconv.Itoa((int(numbersOf(words)[at]) + 1 + d.below(99)) % (1<<31 - 1))
		line := "open 2"
		for i, word := range words {
			line += fmt.Sprint(" ", i+1, " ", word)
		}
		expect(t, line, fmt.Sprintln(secret, at+1))
	}
}

// Nothing is kept from one call to the next.
func TestP2NothingKept(t *testing.T) {
	const begin, look = product + "keys 1 0\ngen 5\n", "show\nrun 3 4\nkey 1\ngen 5\n"
	for range 3 {
		expect(t, begin+look, fourOk+"ok\n1\ninput 1\ninput 2\nmul 0 1\nout 2\nok\n12\n5\n2\n")
		expect(t, look, "error 1 0\nerror 1 0\nerror 4\nerror 4\n")
	}
	for seed := range uint64(100) {
		script := (&drawn{seed}).script()
		first := desk.Run(script)
		expect(t, look, "error 1 0\nerror 1 0\nerror 4\nerror 4\n")
		expect(t, script, first)
	}
}

func FuzzP1P2(f *testing.F) {
	f.Add("deal 3 5 2\nopen 1 1 7 2 9\n")
	f.Add(product + "show\nrun 3 4\nwork 3 1 3 4 / 1 2 3 4 5\nclear\n")
	f.Add("keys 3 1\ngen 1 9 2 8 3 7\nrefresh 1 1 0 0\ntweak 1 4\ncombine 1 2 2 1\nmultiply 1 2 5 6 7\nkey 4\ndrop 4\n")
	f.Add("# no\n\n  x 05\ncircuit \xff /\nshow")
	f.Fuzz(func(t *testing.T, script string) {
		expect(t, script, answers(script))
	})
}
