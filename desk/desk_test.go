package desk

import (
	"fmt"
	"slices"
	"strings"
	"testing"

	"hedgewright/api"
)

// talk is a text, a line each, with the answers to its lines.
type talk struct {
	name string
	said []string
	told []string
}

func hold(t *testing.T, talks []talk) {
	t.Helper()
	for _, c := range talks {
		want := ""
		if len(c.told) > 0 {
			want = strings.Join(c.told, "\n") + "\n"
		}
		if got := Run(strings.Join(c.said, "\n")); got != want {
			t.Errorf("%s: %q, want %q", c.name, got, want)
		}
	}
}

// names are those of all that a first word may ask for, with words that suit.
func names() map[string]string {
	return map[string]string{
		"put": "put 5 50", "get": "get 5", "cut": "cut 5", "next": "next 5", "prev": "prev 5", "count": "count 5",
		"nth": "nth 5", "path": "path 5", "rows": "rows", "tree": "tree grow", "deep": "deep zip",
	}
}

// putting has a line for each key; the Values are ten times as much.
func putting(keys ...int) []string {
	var lines []string
	for _, key := range keys {
		lines = append(lines, fmt.Sprintf("put %d %d", key, key*10))
	}
	return lines
}

// behindNew has n answers to keys that are new, and those that are told behind them.
func behindNew(n int, told ...string) []string {
	return append(slices.Repeat([]string{"new"}, n), told...)
}

// dice are numbers that follow from a seed.
type dice uint32

func (d *dice) next(bound int) int {
	*d = *d*1664525 + 1013904223
	return int(*d>>8) % bound
}

func (d *dice) pick(words ...string) string { return words[d.next(len(words))] }

// someLine is mostly one that can be answered.
func someLine(d *dice, spread int) string {
	number := fmt.Sprint(d.next(spread))
	if d.next(40) == 0 {
		number = d.pick("1000000", "1000001", "9999999", "10000000", "0000003", "00000003", "-1", "+1", "x", "4;4", "")
	}
	var line string
	switch what := d.next(20); {
	case what < 8:
		line = "put " + number + " " + fmt.Sprint(d.next(1000))
	case what < 11:
		line = "cut " + number
	case what < 15:
		line = d.pick("get", "next", "prev", "count", "nth", "path") + " " + number
	case what < 16:
		line = "rows"
	case what < 19:
		line = d.pick("tree", "deep") + " " + d.pick("grow", "zip", "goat", "even")
	default:
		line = d.pick("", " ", ";", "rows 1", "tree", "tree oak", "put 1", "get", "cut 1 2", "Put 1 1", "\xff", "get 5\r", "\t;x", "path")
	}
	if d.next(20) == 0 {
		line = strings.ReplaceAll(line, " ", d.pick("\t", "  ", " \t ")) + d.pick(";", " ; put 1 1", "\t", "  ")
	}
	return line
}

func someText(seed uint32) string {
	d := dice(seed)
	d.next(2)
	spread := []int{4, 10, 40, 200, 1000001}[d.next(5)]
	lines := make([]string, d.next(110))
	for i := range lines {
		lines[i] = someLine(&d, spread)
	}
	return strings.Join(lines, "\n") + d.pick("", "\n", "\n\n")
}

// P12.1

func TestLines(t *testing.T) {
	hold(t, []talk{
		{"nothing", nil, nil},
		{"bytes 10 alone", []string{"", "", "", ""}, nil},
		{"blanks and tabs alone", []string{" ", "\t", " \t \t", "  "}, nil},
		{"behind a ; is no matter", []string{";", "; put 1 1", " ;get 1", "\t;;", ";\xff\x00"}, nil},
		{"no byte 10 in the end", []string{"get 1"}, []string{"none"}},
		{"a byte 10 in the end", []string{"get 1", ""}, []string{"none"}},
		{"lines without words between", []string{"", "put 1 7", " ", ";", "", "get 1", "\t"}, []string{"new", "7"}},
		{"blanks and tabs part words", []string{"  put \t 1\t7\t", "\tget\t1 "}, []string{"new", "7"}},
		{"a ; ends a word", []string{"put 1 7;8", "get 1;", "rows;2", "get ;1"}, []string{"new", "7", "1", "error 1"}},
		{"the first ; counts", []string{"put 1 7 ; put 2 8 ; get 1", "count 9;;"}, []string{"new", "1"}},
		{"a ; ends with its line", []string{"put 1 7;", "get 1"}, []string{"new", "7"}},
	})
}

// No byte but 10, 32, 9 and ; parts anything, and no byte is passed over.
func TestOtherBytes(t *testing.T) {
	for b := range 256 {
		sign := string([]byte{byte(b)})
		split := b == ' ' || b == '\t' || b == ';' || b == '\n'
		for _, text := range []string{sign + "rows", "rows" + sign, "ro" + sign + "ws", sign, "count" + sign + "5", "count 1" + sign} {
			got := Run(text)
			if got != modelRun(text) {
				t.Errorf("%q: %q, want %q", text, got, modelRun(text))
			}
			digit := b >= '0' && b <= '9' && text == "count 1"+sign
			if !split && !digit && got != "error 1\n" {
				t.Errorf("%q: %q", text, got)
			}
		}
	}
	for _, sign := range []string{"\r", "\v", "\f", "\r\n", "\u0085", "\u00a0", "\u2003", "\u2028", "\ufeff"} {
		if got := Run("count 1" + sign); got != "error 1\n" {
			t.Errorf("%q: %q", sign, got)
		}
	}
	for _, digits := range []string{"\u0663", "\uff13", "\u00b2", "3\u0663", "\xb2", "\xc0\xb3", "\xff"} {
		if got := Run("count " + digits); got != "error 1\n" {
			t.Errorf("%q: %q", digits, got)
		}
	}
}

func TestLongTexts(t *testing.T) {
	for _, c := range []struct{ name, text, want string }{
		{"8192 bytes in a word", strings.Repeat("x", 8192), "error 1\n"},
		{"8193 bytes in a word", strings.Repeat("x", 8193), "error 2\n"},
		{"8192 bytes without lines", strings.Repeat("\n", 8192), ""},
		{"8193 bytes without lines", strings.Repeat("\n", 8193), "error 2\n"},
		{"8192 bytes, most no matter", "rows;" + strings.Repeat("x", 8187), "none\n"},
		{"8193 bytes, most no matter", "rows;" + strings.Repeat("x", 8188), "error 2\n"},
		{"8192 bytes, fewer signs", "rows;" + strings.Repeat("\u00e9", 4093) + "x", "none\n"},
		{"8193 bytes, fewer signs", "rows;" + strings.Repeat("\u00e9", 4094), "error 2\n"},
		{"8192 blanks and a line", strings.Repeat(" ", 8188) + "rows", "none\n"},
		{"8193 blanks and a line", strings.Repeat(" ", 8189) + "rows", "error 2\n"},
		{"far too long", strings.Repeat("rows\n", 1_000_000), "error 2\n"},
	} {
		if got := Run(c.text); got != c.want {
			t.Errorf("%s: %q, want %q", c.name, got, c.want)
		}
	}
}

func TestManyLines(t *testing.T) {
	for _, c := range []struct{ name, text, want string }{
		{"100 lines", strings.Repeat("rows\n", 100), strings.Repeat("none\n", 100)},
		{"101 lines", strings.Repeat("rows\n", 101), "error 2\n"},
		{"101 lines, no byte 10 in the end", strings.Repeat("rows\n", 100) + "rows", "error 2\n"},
		{"100 lines, others without words", strings.Repeat("\nrows\n ;x\n\t\n", 100), strings.Repeat("none\n", 100)},
		{"101 lines, others without words", strings.Repeat("\nrows\n ;x\n\t\n", 101), "error 2\n"},
		{"lines without words, far more", strings.Repeat(";\n \n", 1500), ""},
		{"100 lines that tell errors", strings.Repeat("x\n", 100), strings.Repeat("error 1\n", 100)},
		{"101 lines that tell errors", strings.Repeat("x\n", 101), "error 2\n"},
		{"101 lines, the last one an error", strings.Repeat("rows\n", 100) + "x\n", "error 2\n"},
		{"both too long and too many lines", strings.Repeat("rows\n", 2000), "error 2\n"},
	} {
		if got := Run(c.text); got != c.want {
			t.Errorf("%s: %q, want %q", c.name, got, c.want)
		}
	}
}

func TestFirstWords(t *testing.T) {
	for name, line := range names() {
		if got := Run(line); got == "error 1\n" || strings.Count(got, "\n") != 1 {
			t.Errorf("%q: %q", line, got)
		}
		rest := strings.TrimPrefix(line, name)
		for _, other := range []string{strings.ToUpper(name), strings.ToUpper(name[:1]) + name[1:], name[:len(name)-1],
			name + "s", name + "\x00", "x" + name, name + "1", name + ",", "." + name, name[1:], "\"" + name + "\""} {
			if got := Run(other + rest); got != "error 1\n" {
				t.Errorf("%q: %q", other+rest, got)
			}
		}
	}
	for _, line := range []string{"error 1", "none", "old", "new", "x", "5", "5 put", "1 5 50", "put5 50", "grow", "even", "check", "keys", "|", "error"} {
		if got := Run(line); got != "error 1\n" {
			t.Errorf("%q: %q", line, got)
		}
	}
}

func TestTooFewOrTooManyWords(t *testing.T) {
	for name, line := range names() {
		words := strings.Split(line, " ")
		for n := range len(words) {
			text := strings.Join(words[:n], " ")
			if got := Run(text); n > 0 && got != "error 1\n" {
				t.Errorf("%q: %q", text, got)
			}
		}
		for _, more := range []string{" 5", " grow", " x", " 5 5", strings.Repeat(" 1", 500)} {
			if got := Run(line + more); got != "error 1\n" {
				t.Errorf("%q: %q", line+more, got)
			}
		}
		if got := Run(name + " " + line); got != "error 1\n" {
			t.Errorf("%q: %q", name+" "+line, got)
		}
	}
}

func TestNumbers(t *testing.T) {
	bad := []string{"-1", "+1", "-0", "1.", "1.0", ".5", "1e3", "0x1", "1_0", "1,0", "x", "1x", "x1", "12345678", "00000001",
		"10000000", "99999999999999999999999999", "18446744073709551617", "4294967297", "--1", "1-", "'1'", "/", ":", "1/", "1:", "grow"}
	for _, number := range bad {
		for _, name := range []string{"get", "cut", "next", "prev", "count", "nth", "path"} {
			if got := Run(name + " " + number); got != "error 1\n" {
				t.Errorf("%s %s: %q", name, number, got)
			}
		}
		for _, line := range []string{"put 1 " + number, "put " + number + " 1"} {
			if got := Run(line + "\nrows\ntree grow"); got != "error 1\nnone\nnone\n" {
				t.Errorf("%s: %q", line, got)
			}
		}
	}
	hold(t, []talk{
		{"from one digit to seven", []string{"put 0 0", "put 1 9999999", "put 0000002 0000000", "put 1000000 0000123", "rows", "get 00", "get 0000001", "get 2", "get 1000000"},
			behindNew(4, "0 1 2 1000000|0 2 1000000"+strings.Repeat("|0", 10), "0", "9999999", "0", "123")},
		{"all digits", []string{"put 123456 7890123", "put 78 90", "get 123456", "get 078"}, behindNew(2, "7890123", "90")},
	})
}

// A line that tells an error changes nothing.
func TestErrorsChangeNothing(t *testing.T) {
	ahead := putting(5, 3, 9)
	look := []string{"rows", "get 3", "get 5", "get 9", "count 9999999", "tree grow", "tree zip", "tree goat", "tree even", "deep grow"}
	want := Run(strings.Join(slices.Concat(ahead, look), "\n"))
	want = strings.TrimPrefix(want, "new\nnew\nnew\n")
	for _, line := range []string{"put 5", "put 5 x", "put x 5", "put 1000001 5", "put 5 12345678", "put 12345678 5", "put 5 5 5", "Put 5 5",
		"cut", "cut 5 5", "cut 1000001", "cut 5x", "cut -5", "get 1000001", "next 1000001", "prev 1000001", "path 1000001", "tree oak", "deep oak", "rows 5"} {
		got := Run(strings.Join(slices.Concat(ahead, []string{line}, look), "\n"))
		if got != "new\nnew\nnew\nerror 1\n"+want {
			t.Errorf("%q: %q, want %q", line, got, want)
		}
	}
}

// A slip that is thrown within a line is the answer to that line, and does not
// leave it; of one that is thrown the error is told.
func TestSlips(t *testing.T) {
	d := desk{pairs: make([]api.Pair, api.MaxKeys)}
	for i := range d.pairs {
		d.pairs[i].Key = i
	}
	if got := d.answer([]string{"put", "200", "1"}); got != "error 2" || len(d.pairs) != api.MaxKeys {
		t.Errorf("%q", got)
	}
	if got := d.answer([]string{"put", "199", "1"}); got != "old" {
		t.Errorf("%q", got)
	}
	d.pairs[7].Key = 6
	for _, words := range [][]string{{"put", "1", "1"}, {"nth", "7"}, {"path", "9"}, {"rows"}, {"tree", "even"}, {"deep", "even"}} {
		if got := d.answer(words); got != "error 3" {
			t.Errorf("%q: %q", words, got)
		}
	}
}

// P12.2

func TestMap(t *testing.T) {
	hold(t, []talk{
		{"empty", []string{"get 5", "cut 5", "next 5", "prev 5", "count 5", "nth 0", "path 5"}, []string{"none", "none", "none", "none", "0", "none", "none"}},
		{"put", []string{"put 2 20", "put 2 21", "get 2", "put 2 21", "get 2"}, []string{"new", "old", "21", "old", "21"}},
		{"put behind cut", []string{"put 2 20", "cut 2", "put 2 22", "get 2"}, []string{"new", "20", "new", "22"}},
		{"get", append(putting(5, 9), "get 5", "get 9", "get 4", "get 6", "get 10", "get 0", "get 1000000"), behindNew(2, "50", "90", "none", "none", "none", "none", "none")},
		{"a Value of 0 is one", []string{"put 0 0", "get 0", "next 0", "prev 1", "nth 0", "cut 0", "get 0"}, []string{"new", "0", "none", "0 0", "0 0", "0", "none"}},
		{"cut", append(putting(5, 9), "cut 5", "cut 5", "get 5", "get 9", "cut 9", "rows"), behindNew(2, "50", "none", "none", "90", "90", "none")},
		{"next", append(putting(5, 9), "next 0", "next 4", "next 5", "next 8", "next 9", "next 1000000"), behindNew(2, "5 50", "5 50", "9 90", "9 90", "none", "none")},
		{"prev", append(putting(5, 9), "prev 0", "prev 5", "prev 6", "prev 9", "prev 10", "prev 1000000"), behindNew(2, "none", "none", "5 50", "5 50", "9 90", "9 90")},
		{"count", append(putting(5, 9), "count 0", "count 5", "count 6", "count 9", "count 10", "count 1000001", "count 9999999"), behindNew(2, "0", "0", "1", "1", "2", "2", "2")},
		{"nth", append(putting(9, 5), "nth 0", "nth 1", "nth 2", "nth 1000001", "nth 9999999"), behindNew(2, "5 50", "9 90", "none", "none", "none")},
		{"the least and the greatest key", []string{"put 0 1", "put 1000000 2", "next 0", "prev 1000000", "next 1000000", "prev 0", "get 1000000", "cut 1000000", "get 0"},
			[]string{"new", "new", "1000000 2", "0 1", "none", "none", "2", "2", "1"}},
		{"what is no key", []string{"put 1000001 1", "get 1000001", "cut 1000001", "next 1000001", "prev 1000001", "path 1000001", "put 9999999 1", "count 1000001", "nth 1000001"},
			append(slices.Repeat([]string{"error 1"}, 7), "0", "none")},
	})
}

func TestPath(t *testing.T) {
	// The Height of 2 and 17 is 2, that of 4 is 3, that of 1, 9 and 18 is 1.
	hold(t, []talk{
		{"from the highest row on", append(putting(1, 2, 4, 9), "path 10", "path 9", "path 4", "path 3", "path 2", "path 1", "path 0", "path 1000000"),
			behindNew(4, "4 9", "4", "2", "2", "1", "none", "none", "4 9")},
		{"down, row by row", append(putting(18, 17, 9, 4, 2, 1), "path 19", "path 18", "path 17", "path 9"), behindNew(6, "4 17 18", "4 17", "4 9", "4")},
		{"of the keys that are there", append(putting(1, 2, 4, 9), "cut 4", "path 10", "cut 2", "path 10", "put 4 0", "path 9"),
			behindNew(4, "40", "2 9", "20", "1 9", "new", "4")},
		{"one row", append(putting(9, 18, 1), "path 19", "path 18"), behindNew(3, "1 9 18", "1 9")},
		{"none of none", []string{"path 0", "path 1000000"}, []string{"none", "none"}},
	})
}

// P12.3

func TestRows(t *testing.T) {
	hold(t, []talk{
		{"none", []string{"rows"}, []string{"none"}},
		{"one row", append(putting(9, 1), "rows"), behindNew(2, "1 9")},
		{"one key", append(putting(9), "rows"), behindNew(1, "9")},
		{"one key in many rows", append(putting(4), "rows"), behindNew(1, "4|4|4")},
		{"from the lowest on", append(putting(9, 4, 2, 1), "rows"), behindNew(4, "1 2 4 9|2 4|4")},
		{"behind a cut", append(putting(9, 4, 2, 1), "cut 4", "rows", "cut 2", "rows", "cut 1", "cut 9", "rows"), behindNew(4, "40", "1 2 9|2", "20", "1 9", "10", "90", "none")},
	})
}

func TestTrees(t *testing.T) {
	rising := putting(0, 1, 2, 3, 4)
	hold(t, []talk{
		{"grow", append(putting(5, 3, 9, 4, 1), "tree grow", "deep grow"), behindNew(5, "5 3 1 4 9", "2")},
		{"grow by how they came", slices.Concat(rising, []string{"tree grow", "deep grow"}), behindNew(5, "0 1 2 3 4", "4")},
		{"grow by how they went", append(putting(5, 3, 9), "cut 5", "tree grow", "deep grow", "put 5 0", "tree grow", "deep grow"), behindNew(3, "50", "9 3", "1", "new", "9 3 5", "2")},
		{"goat", slices.Concat(rising, []string{"tree goat", "deep goat"}), behindNew(5, "0 3 2 1 4", "3")},
		{"goat built anew where too few are left", slices.Concat(rising, []string{"cut 0", "cut 4", "tree goat", "deep goat"}), behindNew(5, "0", "40", "2 1 3", "1")},
		{"zip", append(putting(1, 4, 9, 18), "tree zip", "deep zip"), behindNew(4, "4 1 9 18", "2")},
		{"zip however they came", append(putting(4, 18, 17, 9, 1), "tree zip", "cut 17", "tree zip", "deep zip"), behindNew(5, "4 1 17 9 18", "170", "4 1 9 18", "2")},
		{"even", append(putting(4, 2, 1, 3), "tree even", "deep even"), behindNew(4, "3 2 1 4", "2")},
		{"even of those that are there", slices.Concat(rising, []string{"cut 4", "cut 0", "tree even", "deep even"}), behindNew(5, "40", "0", "2 1 3", "1")},
		{"a put of a key that is there", append(putting(1, 2), "put 1 0", "tree grow", "deep grow"), behindNew(2, "old", "1 2", "1")},
		{"all lines up to there, none behind", []string{"tree grow", "put 2 0", "tree grow", "deep grow", "put 1 0", "tree grow", "deep grow"},
			[]string{"none", "new", "2", "0", "new", "2 1", "1"}},
	})
	for _, name := range []string{"grow", "zip", "goat", "even"} {
		hold(t, []talk{
			{name + " of none", []string{"tree " + name, "deep " + name}, []string{"none", "none"}},
			{name + " of none left", []string{"put 4 0", "cut 4", "tree " + name, "deep " + name}, []string{"new", "0", "none", "none"}},
			{name + " of one", []string{"put 0 0", "tree " + name, "deep " + name}, []string{"new", "0", "0"}},
		})
	}
}

func TestNoSuchTree(t *testing.T) {
	for _, name := range []string{"oak", "Grow", "GROW", "gro", "grows", "vine", "best", "heap", "plain", "skip", "shape", "half", "hands", "desk", "1", "none", "grow,", "even\r"} {
		for _, ask := range []string{"tree ", "deep "} {
			if got := Run(ask + name); got != "error 1\n" {
				t.Errorf("%s%s of none: %q", ask, name, got)
			}
			if got := Run("put 1 1\n" + ask + name); got != "new\nerror 1\n" {
				t.Errorf("%s%s: %q", ask, name, got)
			}
		}
	}
}

// At most 100 keys come, and all of them are in each tree.
func TestAtItsLimits(t *testing.T) {
	for _, last := range []string{"rows", "tree grow", "tree zip", "tree goat", "tree even", "deep grow", "deep zip", "deep goat", "deep even", "path 1000000", "nth 98", "count 99"} {
		var text strings.Builder
		for i := range 99 {
			fmt.Fprintf(&text, "put %d %d\n", 1000000-i*37, 9999999-i)
		}
		text.WriteString(last)
		if got := Run(text.String()); got != modelRun(text.String()) || strings.Count(got, "new\n") != 99 || strings.Contains(got, "error") {
			t.Errorf("%s: %q", last, got)
		}
	}
}

func TestRunAsTheModel(t *testing.T) {
	errors, large := 0, 0
	for seed := range uint32(4000) {
		text := someText(seed)
		got := Run(text)
		if want := modelRun(text); got != want {
			t.Fatalf("%q: %q, want %q", text, got, want)
		}
		if got == "error 2\n" {
			large++
		}
		errors += strings.Count(got, "error 1\n")
	}
	if errors < 1000 || large < 10 || large > 1000 {
		t.Error("not of all kinds:", errors, large)
	}
}

// P1, P2

func TestNothingPanics(t *testing.T) {
	parts := []string{"put", "get", "cut", "path", "rows", "tree", "deep", "grow", "goat", "nth", "count", "1", "0", "1000000", "9999999", "99999999",
		" ", " ", " ", "\t", ";", "\n", "\n", "\n", "\x00", "\xff", "\xc3", "\u20ac", "-"}
	for seed := range uint32(4000) {
		d := dice(seed)
		d.next(2)
		var text strings.Builder
		for range d.next(200) {
			text.WriteString(d.pick(parts...))
		}
		if got := Run(text.String()); got != modelRun(text.String()) {
			t.Fatalf("%q: %q", text.String(), got)
		}
		bytes := make([]byte, d.next(400))
		for i := range bytes {
			bytes[i] = byte(d.next(256))
		}
		if got := Run(string(bytes)); got != modelRun(string(bytes)) {
			t.Fatalf("%q: %q", bytes, got)
		}
	}
}

func TestNothingIsKept(t *testing.T) {
	for seed := range uint32(200) {
		text := someText(seed)
		ahead := Run(text)
		Run(someText(seed + 1))
		if got := Run("rows\ntree goat\ndeep grow\nget 1"); got != "none\nnone\nnone\nnone\n" {
			t.Fatalf("%q: kept: %q", text, got)
		}
		if again := Run(text); again != ahead {
			t.Fatalf("%q: %q, then %q", text, ahead, again)
		}
	}
}
