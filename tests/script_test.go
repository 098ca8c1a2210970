package tests

import (
	"slices"
	"strconv"
	"strings"
	"testing"

	"loop.example/s01733/impl"
)

// spelled is a line and its operation.
type spelled struct {
	line string
	op   impl.Op
}

// everyLine has each kind of line at least once.
func everyLine() []spelled {
	return []spelled{
		{"open", opOpen}, {"put a b", opPut("a", "b")}, {"del a", opDel("a")}, {"sync", opSync}, {"get a", opGet("a")}, {"scan a b", opScan("a", "b")},
		{"flush", opFlush}, {"compact 1", opCompact(1)}, {"close", opClose}, {"check", opCheck}, {"repair", opRepair}, {"dump", opDump}, {"list", opList},
		{"batch a=b", opBatch(put("a", 0, "b"))}, {"batch a", opBatch(del("a", 0))}, {"batch a=b c d=", opBatch(put("a", 0, "b"), del("c", 0), put("d", 0, ""))},
		{"crash", opCrash()}, {"crash 1", opCrash(1)}, {"crash 5 -1 0", opCrash(5, -1, 0)}, {"fuel 7", opFuel(7)}, {"poke a 3 b", opPoke("a", 3, "b")},
	}
}

func expectLine(t *testing.T, line string, op impl.Op) {
	t.Helper()
	expectScript(t, "the last of three lines", scriptOf("quota 5", "open", line), 5, opOpen, op)
	expectScript(t, "the second of three lines", scriptOf("quota 5", line, "open"), 5, op, opOpen)
	expectScript(t, "the end of the text", "quota 5\n"+line, 5, op)
}

func expectBadLine(t *testing.T, line string) {
	t.Helper()
	expectBadScript(t, "a bad line", scriptOf("quota 5", line), 3)
	expectBadScript(t, "a bad line behind another", scriptOf("quota 5", "open", line, "close"), 4)
	if line != "" {
		expectBadScript(t, "a bad line at the end of the text", "quota 5\n"+line, 3)
	}
}

func TestEveryLine(t *testing.T) {
	lines, list := []string{"quota 9"}, []impl.Op{}
	for _, s := range everyLine() {
		expectLine(t, s.line, s.op)
		if lineOf(s.op) != s.line || !written(s.op) {
			t.Errorf("the test writes %q as %q", s.line, lineOf(s.op))
		}
		lines, list = append(lines, s.line), append(list, s.op)
	}
	expectScript(t, "all of them", scriptOf(lines...), 9, list...)
	seen := map[int]int{}
	for _, op := range list {
		seen[op.Kind]++
	}
	if len(seen) != impl.OpList {
		t.Errorf("%d kinds of lines were looked at", len(seen))
	}
}

func TestEveryLineWithOtherParts(t *testing.T) {
	open := map[int]bool{impl.OpBatch: true, impl.OpCrash: true}
	for _, s := range everyLine() {
		parts := strings.Split(s.line, " ")
		if !open[s.op.Kind] {
			expectBadLine(t, s.line+" 1")
			expectBadLine(t, s.line+" a")
			expectBadLine(t, s.line+" _")
			for n := range parts {
				expectBadLine(t, strings.Join(parts[:n], " "))
			}
		}
		expectBadLine(t, s.line+" ")
		expectBadLine(t, " "+s.line)
		expectBadLine(t, s.line+"\t")
		expectBadLine(t, "\t"+s.line)
		expectBadLine(t, s.line+"\r")
		expectBadLine(t, s.line+"\x00")
		expectBadLine(t, strings.ToUpper(s.line))
		expectBadLine(t, s.line[1:])
		expectBadLine(t, "x"+s.line)
		expectBadLine(t, "_ "+s.line)
		for n := 1; n < len(parts); n++ {
			expectBadLine(t, strings.Join(parts[:n], " ")+"  "+strings.Join(parts[n:], " "))
			expectBadLine(t, strings.Join(parts[:n], " ")+"\t"+strings.Join(parts[n:], " "))
			expectBadLine(t, strings.Join(parts[:n], " ")+" \t "+strings.Join(parts[n:], " "))
		}
	}
	for _, line := range []string{"batch", "batch ", "batch  ", "batch _", "batch a _", "batch _ a", "batch a  b", "crash ", "crash  ", "crash a", "crash 1 a", "crash 1  2", "crash _"} {
		expectBadLine(t, line)
	}
}

func TestWordsThatBeginNoLine(t *testing.T) {
	for _, line := range []string{"", " ", "_", "x", "quota", "quota 5", "quota 1048576", "look", "ope", "opens", "open_", "open=", "Open", "puts a b", "delete a", "scan", "0", "1", "-1", "crash1", "batcha=b", "\n", "#", "# open"} {
		expectBadLine(t, line)
	}
}

func TestFirstLine(t *testing.T) {
	for line, quota := range map[string]int{"quota 0": 0, "quota 1": 1, "quota 10": 10, "quota 9999": 9999, "quota 1048575": 1048575, "quota 1048576": 1048576} {
		expectScript(t, "alone", line, quota)
		expectScript(t, "alone with a newline", line+"\n", quota)
		expectScript(t, "ahead of a line", scriptOf(line, "open"), quota, opOpen)
	}
	for _, line := range []string{
		"", " ", "quota", "quota ", "quota  ", "quota _", "quota x", "quota 5x", "quota x5", "quota -1", "quota -2", "quota -0", "quota +5", "quota 05", "quota 00",
		"quota 1048577", "quota 1048580", "quota 10485760", "quota 99999999", "quota 100000000", "quota 18446744073709551621", "quota 5 5", "quota 5 ", "quota 5 _", " quota 5", "quota  5",
		"quota\t5", "quota 5\t", "quota 5\r", "\tquota 5", "\rquota 5", "Quota 5", "QUOTA 5", "quot 5", "quotas 5", "quota5", "quota=5", "5", "5 quota", "open", "open 5", "_ 5", "\xff", "quota 5\x00", "\xef\xbb\xbfquota 5",
	} {
		expectBadScript(t, "alone", line, 2)
		expectBadScript(t, "ahead of a line", scriptOf(line, "open"), 2)
		expectBadScript(t, "ahead of one that would do", scriptOf(line, "quota 5"), 2)
		expectBadScript(t, "ahead of a bad line", scriptOf(line, "look"), 2)
	}
	expectBadScript(t, "missing", "", 2)
	expectBadScript(t, "empty", "\n", 2)
	expectBadScript(t, "empty ahead of empty ones", "\n\n\n", 2)
}

func TestWhereLinesEnd(t *testing.T) {
	expectScript(t, "no newline at the end", "quota 5\nopen\nclose", 5, opOpen, opClose)
	expectScript(t, "a newline at the end", "quota 5\nopen\nclose\n", 5, opOpen, opClose)
	expectBadScript(t, "two newlines at the end", "quota 5\nopen\nclose\n\n", 5)
	expectBadScript(t, "three newlines at the end", "quota 5\nopen\nclose\n\n\n", 5)
	expectBadScript(t, "two newlines behind the first line", "quota 5\n\n", 3)
	expectBadScript(t, "an empty line in the midst", "quota 5\nopen\n\nclose\n", 4)
	expectBadScript(t, "a space at the end of the text", "quota 5\nopen\nclose\n ", 5)
	expectBadScript(t, "a carriage return at the end of the text", "quota 5\nopen\nclose\n\r", 5)
	expectBadScript(t, "carriage returns", "quota 5\r\nopen\r\nclose\r\n", 2)
	expectBadScript(t, "a carriage return", "quota 5\nopen\nclose\r\n", 4)
	expectBadScript(t, "carriage returns for newlines", "quota 5\nopen\rclose\r", 3)
	expectBadScript(t, "another end of a line", "quota 5\nopen\v\nclose\n", 3)
	expectBadScript(t, "an end of a line of three bytes", "quota 5\nopen\u2028close\n", 3)
}

// numberLines has a line for each place of a number, with % in its place.
func numberLines() []struct {
	line string
	op   func(n int) impl.Op
} {
	return []struct {
		line string
		op   func(n int) impl.Op
	}{
		{"compact %", opCompact},
		{"fuel %", opFuel},
		{"poke f % v", func(n int) impl.Op { return opPoke("f", n, "v") }},
		{"crash %", func(n int) impl.Op { return opCrash(n) }},
		{"crash % 5", func(n int) impl.Op { return opCrash(n, 5) }},
		{"crash 5 % 5", func(n int) impl.Op { return opCrash(5, n, 5) }},
		{"crash 5 %", func(n int) impl.Op { return opCrash(5, n) }},
	}
}

func TestNumbers(t *testing.T) {
	for _, l := range numberLines() {
		for _, n := range []int{-1, 0, 1, 2, 9, 10, 99, 100, 12345678, 90000000, 99999998, 99999999} {
			expectLine(t, strings.Replace(l.line, "%", strconv.Itoa(n), 1), l.op(n))
		}
		for _, part := range []string{
			"", "_", "-", "+", "--1", "-+1", "+1", "+0", "+-1", "-0", "-00", "-01", "-2", "-9", "-10", "-11", "-99999999", "00", "01", "000000001", "010",
			"100000000", "100000001", "123456789", "999999999", "2147483648", "4294967295", "4294967296", "9223372036854775807", "9223372036854775808", "18446744073709551615", "18446744073709551616", "18446744073709551617", "-9223372036854775808", "-18446744073709551617",
			strings.Repeat("9", 400), strings.Repeat("0", 400), "-" + strings.Repeat("0", 400) + "1", strings.Repeat("0", 8) + "1",
			"1x", "x1", "x", "0x1", "0b1", "0o1", "1e3", "1_0", "1.", ".1", "1.0", "1,0", "1=", "=1", "(1)", "½", "\u0661", "1\x00", "\x001", "1\xff", "\xb9", "1\t", "\v1", "1\r",
		} {
			expectBadLine(t, strings.Replace(l.line, "%", part, 1))
		}
	}
}

// wordLines has a line for each place of a word, with % in its place.
func wordLines() []struct {
	line string
	op   func(text string) impl.Op
} {
	return []struct {
		line string
		op   func(text string) impl.Op
	}{
		{"put % v", func(s string) impl.Op { return opPut(s, "v") }},
		{"put k %", func(s string) impl.Op { return opPut("k", s) }},
		{"del %", opDel},
		{"get %", opGet},
		{"scan % v", func(s string) impl.Op { return opScan(s, "v") }},
		{"scan k %", func(s string) impl.Op { return opScan("k", s) }},
		{"poke % 0 v", func(s string) impl.Op { return opPoke(s, 0, "v") }},
		{"poke k 0 %", func(s string) impl.Op { return opPoke("k", 0, s) }},
	}
}

func TestWords(t *testing.T) {
	everyByte := ""
	for b := '!'; b <= '~'; b++ {
		everyByte += string(b)
	}
	for _, l := range wordLines() {
		expectLine(t, strings.Replace(l.line, "%", "_", 1), l.op(""))
		for _, text := range []string{
			"!", "~", "a", "0", "-1", "-", "=", "==", "a=b", "=a", "a=", "\"", "\"\"", "''", "\\", "\\n", "\\_", "%", "#", "/", "lost/x", "CURRENT", "open", "quota",
			"__", "___", "_a", "a_", "a_b", "_=", "=_", "_0", "-_", everyByte, long(1000), long(1001), long(20000),
		} {
			expectLine(t, strings.Replace(l.line, "%", text, 1), l.op(text))
		}
		expectBadLine(t, strings.Replace(l.line, "%", "", 1))
		expectBadLine(t, strings.Replace(l.line, "%", "a b", 1))
		expectBadLine(t, strings.Replace(l.line, "%", "_ _", 1))
	}
	expectLine(t, "put _ _", opPut("", ""))
	expectLine(t, "scan _ _", opAll)
	expectLine(t, "poke _ -1 _", opPoke("", -1, ""))
}

// Every byte, at the beginning, in the midst and at the end of a word, and alone.
func TestBytesOfWords(t *testing.T) {
	for b := range 256 {
		if b == ' ' || b == '\n' {
			continue
		}
		one := string([]byte{byte(b)})
		for _, l := range wordLines() {
			for _, text := range []string{one + "x", "x" + one + "x", "x" + one, one + one} {
				line := strings.Replace(l.line, "%", text, 1)
				if b >= 33 && b <= 126 {
					expectScript(t, "byte "+strconv.Itoa(b), scriptOf("quota 5", line), 5, l.op(text))
				} else {
					expectBadScript(t, "byte "+strconv.Itoa(b), scriptOf("quota 5", line), 3)
				}
			}
			if b < 33 || b > 126 {
				expectBadScript(t, "byte "+strconv.Itoa(b)+" alone", scriptOf("quota 5", strings.Replace(l.line, "%", one, 1)), 3)
				expectBadScript(t, "byte "+strconv.Itoa(b)+" and an underscore", scriptOf("quota 5", strings.Replace(l.line, "%", "_"+one, 1)), 3)
			}
		}
		if b < 33 || b > 126 {
			for _, item := range []string{one, "x" + one, one + "=v", "x=" + one, "x=v" + one, "x" + one + "=v"} {
				expectBadScript(t, "an item with byte "+strconv.Itoa(b), scriptOf("quota 5", "batch a=1 "+item+" b"), 3)
			}
		}
	}
	expectBadScript(t, "a newline in a word", scriptOf("quota 5", "get a\nb"), 4)
	expectBadScript(t, "a newline behind which there is a line", scriptOf("quota 5", "put a\nopen"), 3)
	expectBadScript(t, "letters of two bytes", scriptOf("quota 5", "get é"), 3)
	expectBadScript(t, "letters of four bytes", scriptOf("quota 5", "get x\U0001f600"), 3)
}

func TestItems(t *testing.T) {
	for item, e := range map[string]impl.Entry{
		"a": del("a", 0), "a=b": put("a", 0, "b"), "a=": put("a", 0, ""), "=b": put("", 0, "b"), "=": put("", 0, ""), "==": put("", 0, "="), "===": put("", 0, "=="),
		"a=b=c": put("a", 0, "b=c"), "a==": put("a", 0, "="), "a==b": put("a", 0, "=b"), "a=b=": put("a", 0, "b="), "=a=b": put("", 0, "a=b"), "==a": put("", 0, "=a"),
		"__": del("__", 0), "_a": del("_a", 0), "a_": del("a_", 0), "_=": put("_", 0, ""), "=_": put("", 0, "_"), "_=_": put("_", 0, "_"), "a=_": put("a", 0, "_"), "_=a": put("_", 0, "a"), "_=_=_": put("_", 0, "_=_"),
		"!": del("!", 0), "~": del("~", 0), "-1": del("-1", 0), "0=1": put("0", 0, "1"), "open": del("open", 0), long(5000): del(long(5000), 0), long(1001) + "=" + long(4001): put(long(1001), 0, long(4001)),
	} {
		expectLine(t, "batch "+item, opBatch(e))
		expectLine(t, "batch x=1 "+item, opBatch(put("x", 0, "1"), e))
		expectLine(t, "batch "+item+" "+item+" x", opBatch(e, e, del("x", 0)))
		expectBadLine(t, "batch "+item+" _")
		expectBadLine(t, "batch _ "+item)
		expectBadLine(t, "batch "+item+" _ "+item)
		expectBadLine(t, "batch "+item+"  "+item)
	}
	for _, n := range []int{999, 1000, 1001, 20000} {
		expectLine(t, "batch"+strings.Repeat(" a", n), opBatch(copies(del("a", 0), n)...))
	}
	for _, n := range []int{199, 200, 201, 20000} {
		expectLine(t, "crash"+strings.Repeat(" 7", n), opCrash(slices.Repeat([]int{7}, n)...))
	}
}

// The number that names a bad line is 2 more than its own, the first being 0.
func TestBadLinesAreNamed(t *testing.T) {
	good := slices.Repeat([]string{"open", "put a b", "batch a=1 b", "crash", "fuel 3"}, 6)
	for i := range good {
		lines := append([]string{"quota 5"}, good...)
		lines[1+i] = "look"
		expectBadScript(t, "one", scriptOf(lines...), 3+i)
		for j := i + 1; j < len(good); j++ {
			two := slices.Clone(lines)
			two[1+j] = []string{"look", "put a", "batch", "crash -2", "", "fuel 100000000"}[j%6]
			expectBadScript(t, "two", scriptOf(two...), 3+i)
		}
		lines[0] = "quota"
		expectBadScript(t, "the first line too", scriptOf(lines...), 2)
	}
	for i, bad := range []string{"look", "", "put a", "put a b c", "get \x7f", "fuel 01", "crash x", "batch _", "open "} {
		expectBadScript(t, "behind others", scriptOf(append(append([]string{"quota 5"}, good[:i]...), bad)...), 3+i)
	}
}

func TestHowManyLines(t *testing.T) {
	script := func(n int, at map[int]string) string {
		lines := append([]string{"quota 5"}, slices.Repeat([]string{"sync"}, n)...)
		for i, line := range at {
			lines[i] = line
		}
		return scriptOf(lines...)
	}
	for _, n := range []int{0, 1, 1999, 2000} {
		expectScript(t, strconv.Itoa(n)+" lines", script(n, nil), 5, slices.Repeat(ops(opSync), n)...)
		expectScript(t, strconv.Itoa(n)+" lines without the last newline", strings.TrimSuffix(script(n, nil), "\n"), 5, slices.Repeat(ops(opSync), n)...)
	}
	for _, n := range []int{2001, 2002, 3000, 11998} {
		expectBadScript(t, strconv.Itoa(n)+" lines", script(n, nil), 2003)
		expectBadScript(t, strconv.Itoa(n)+" lines without the last newline", strings.TrimSuffix(script(n, nil), "\n"), 2003)
		expectBadScript(t, "too many, the first of those bad", script(n, map[int]string{2001: "look"}), 2003)
		expectBadScript(t, "too many, the last one bad", script(n, map[int]string{n: "look"}), 2003)
		expectBadScript(t, "too many, the last two lines empty", script(n, nil)+"\n", 2003)
		expectBadScript(t, "too many, the first line bad", script(n, map[int]string{0: "look"}), 2)
		for _, at := range []int{1, 2, 1000, 1999, 2000} {
			expectBadScript(t, "too many, and a bad one before", script(n, map[int]string{at: "look"}), 2+at)
			expectBadScript(t, "too many, and bad ones before, at and behind", script(n, map[int]string{at: "look", 2001: "look", n: ""}), 2+at)
		}
	}
	expectBadScript(t, "the last of the lines is bad", script(2000, map[int]string{2000: "look"}), 2002)
	expectBadScript(t, "an empty line behind 2000", script(2000, nil)+"\n", 2003)
	expectBadScript(t, "a bad line behind 2000", script(2000, nil)+"look", 2003)
	expectBadScript(t, "empty lines behind 1999", script(1999, nil)+"\n\n\n", 2002)
	expectBadScript(t, "very many empty lines", "quota 5\n"+strings.Repeat("\n", 59000), 3)
}

func TestHowManyBytes(t *testing.T) {
	sized := func(n int) string {
		begin := "quota 5\nput k "
		return begin + strings.Repeat("v", n-len(begin))
	}
	for _, n := range []int{59999, 60000} {
		expectScript(t, strconv.Itoa(n)+" bytes", sized(n), 5, opPut("k", strings.Repeat("v", n-14)))
		expectScript(t, strconv.Itoa(n)+" bytes with the last newline", sized(n-1)+"\n", 5, opPut("k", strings.Repeat("v", n-15)))
		expectBadScript(t, "of x", strings.Repeat("x", n), 2)
		expectBadScript(t, "of newlines", strings.Repeat("\n", n), 2)
		expectBadScript(t, "of spaces", strings.Repeat(" ", n), 2)
		expectBadScript(t, "with a bad line", "quota 5\n"+strings.Repeat("x", n-8), 3)
		expectBadScript(t, "with empty lines", sized(n-2)+"\n\n", 4)
	}
	for _, n := range []int{60001, 60002, 120000, 3000000} {
		expectBadScript(t, strconv.Itoa(n)+" bytes", sized(n), 1)
		expectBadScript(t, strconv.Itoa(n)+" bytes with the last newline", sized(n-1)+"\n", 1)
		expectBadScript(t, "too long, the first line bad", strings.Repeat("x", n), 1)
		expectBadScript(t, "too long, the first line empty", strings.Repeat("\n", n), 1)
		expectBadScript(t, "too long, a bad line", "quota 5\n"+strings.Repeat("x", n-8), 1)
		expectBadScript(t, "too long, too many lines", "quota 5\n"+strings.Repeat("sync\n", n/5), 1)
	}
}

// What was answered stays as it is, whatever is done with the program later.
func TestScriptsStayAsTheyAre(t *testing.T) {
	text := scriptOf("quota 9999", "open", "batch a=1 b c=2", "put d e", "crash 1 2 3", "open", "scan _ _", "list")
	other := scriptOf("quota 77", "batch x y z", "crash 9 9 9 9", "fuel 0", "open")
	first, _ := impl.ParseScript(text)
	kept := copyScript(first)
	run := impl.Run(text)
	runKept := strings.Clone(run)
	second, _ := impl.ParseScript(other)
	scribbleScript(second)
	impl.Run(other)
	impl.Run(text)
	o := impl.Exec(dir(first.Quota, -1), first.Ops)
	scribbleOutcome(o)
	if !sameScript(first, kept) || run != runKept {
		t.Errorf("what was answered has changed")
	}
	if shown(impl.Exec(dir(first.Quota, -1), first.Ops)) != run {
		t.Errorf("Exec of the script that was read shows something else than Run")
	}
}

// anyWord is most often one.
func (d *dice) anyWord() string {
	switch d.below(30) {
	case 0:
		return ""
	case 1:
		return d.text(1 + d.below(3))
	case 2, 3:
		return "_"
	case 4:
		return []string{"__", "_a", "a_", "=", "a=", "=a", "a=b=c", "-1", "!", "~"}[d.below(10)]
	case 5:
		return "a" + string([]byte{byte(d.below(256))}) + "b"
	}
	return d.storeKey() + []string{"", "=", "=" + d.storeVal(), d.storeVal()}[d.below(4)]
}

// anyNumber is most often one.
func (d *dice) anyNumber() string {
	switch d.below(20) {
	case 0:
		return []string{"", "_", "-", "-0", "-2", "00", "01", "+1", "100000000", "99999999999999999999"}[d.below(10)]
	case 1:
		return d.anyWord()
	case 2:
		return "99999999"
	case 3, 4, 5:
		return "-1"
	}
	return strconv.Itoa(d.below(1 << (1 + d.below(26))))
}

func (d *dice) anyLine() string {
	form := lineForms[1+d.below(17)]
	form = strings.ReplaceAll(form, "( W)*", strings.Repeat(" W", d.below(4)))
	form = strings.ReplaceAll(form, "( N)*", strings.Repeat(" N", d.below(4)))
	parts := strings.Split(form, " ")
	for i, part := range parts {
		switch part {
		case "W":
			parts[i] = d.anyWord()
		case "N":
			parts[i] = d.anyNumber()
		}
	}
	switch d.below(40) {
	case 0:
		parts = parts[:d.below(len(parts)+1)]
	case 1:
		parts = append(parts, d.anyWord())
	case 2:
		parts = slices.Insert(parts, d.below(len(parts)+1), "")
	}
	return strings.Join(parts, " ")
}

func (d *dice) anyScript() string {
	lines := []string{"quota " + strconv.Itoa(d.below(5000))}
	if d.below(12) == 0 {
		lines[0] = "quota " + d.anyNumber()
	}
	for range d.below(6) {
		lines = append(lines, d.anyLine())
	}
	text := strings.Join(lines, "\n") + strings.Repeat("\n", min(d.below(3), 1+d.below(2)))
	for d.below(4) == 0 && text != "" {
		text = d.edited(text)
	}
	return text
}

func TestAnyScriptsAgainstTheDocument(t *testing.T) {
	d := &dice{state: 717}
	seen := map[int]int{}
	for range 60000 {
		text := d.anyScript()
		got, code := impl.ParseScript(text)
		want, wantCode := plainParse(text)
		if code != wantCode || !sameScript(got, want) {
			t.Fatalf("%q: code %d and %v, want %d and %v", text, code, got, wantCode, want)
		}
		seen[code]++
	}
	for code := range 8 {
		if code != 1 && seen[code] < 500 {
			t.Errorf("code %d came up only %d times: the walk misses its purpose", code, seen[code])
		}
	}
}
