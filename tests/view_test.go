package tests

import (
	"strconv"
	"strings"
	"testing"

	"loop.example/s01733/impl"
)

var pageOfZeros = strings.Repeat("\x00", 64)

func TestViewOfWhatIsNotValid(t *testing.T) {
	for what, fs := range notValid() {
		expectView(t, what, fs, 0)
	}
	for _, fs := range []impl.FS{withFuel(wreck(), -2), withQuota(wreck(), -1), withFuel(marked("repair.ok", markOf(1), "repair.tab", tab()), -2)} {
		expectView(t, "not valid", fs, 0)
	}
}

func TestViewWithoutEntries(t *testing.T) {
	expectView(t, "nothing", emptyDir(), 0)
	expectView(t, "the zero directory", impl.FS{}, 0)
	for _, data := range []string{"", "x", pageOfZeros, strings.Repeat("W", 640), strings.Repeat("B\x01\x00\x00", 160), batch("no entries"), blockText(nil), logText(nil), editFrame(impl.Edit{Log: 1, Next: 2}), sst(), markOf(7)} {
		expectView(t, brief(data), holding("1.log", data, "1.sst", data, "any", data), 0)
	}
}

func TestViewOfDeletions(t *testing.T) {
	expectView(t, "deletions alone", holding("f", logText(entries(del("b", 4), del("a", 9)), entries(del("b", 6)))), 9, del("a", 9), del("b", 6))
	expectView(t, "a deletion hides a put", holding("f", logText(entries(put("a", 1, "1"), del("a", 2)))), 2, del("a", 2))
	expectView(t, "a put hides a deletion", holding("f", logText(entries(del("a", 2), put("a", 3, "3")))), 3, put("a", 3, "3"))
}

// What a file is called does not matter, unless it is the repairer's or in the
// archive.
func TestViewGoesByTheBeginningOfNames(t *testing.T) {
	data := logText(entries(put("a", 1, "1")))
	for _, name := range []string{"1.log", "1.sst", "CURRENT", "CURRENT.tmp", "MANIFEST-1", "any name", "lost", "lost.", "Lost/x", "lost\\x", " lost/x", "x/lost/y", "repair", "repair_ok", "Repair.ok", " repair.ok", "x.repair.ok", "\x00", "\xff\xfe", long(100), long(101), long(120)} {
		expectView(t, brief(name), holding(name, data), 1, put("a", 1, "1"))
	}
	for _, name := range []string{"lost/", "lost/x", "lost/1.log", "lost/lost/x", "lost/" + long(115), "repair.", "repair.x", "repair.ok", "repair.go", "repair.tab", "repair.tmp", "repair.lost/x", "repair." + long(113)} {
		expectView(t, brief(name), holding(name, data), 0)
		expectView(t, brief(name)+" beside another", holding("a file", logText(entries(put("b", 2, "2"))), name, data), 2, put("b", 2, "2"))
	}
}

// inMidst has texts in which one batch is to be found.
func inMidst(found string) []sample {
	whole := long(64)
	list := []sample{}
	for what, data := range map[string]string{
		"alone": found, "a byte behind": found + "x", "a page ahead": whole + found, "pages ahead and behind": whole + pageOfZeros + found + whole,
		"behind a frame of another kind": markOf(3) + editFrame(impl.Edit{Log: 1, Next: 2}) + found, "behind a block that is no list": impl.Frame(impl.FrameBlock, "x") + found,
		"behind a cut frame":         batch(long(500))[:128] + found,
		"behind a turned frame":      withByte(batch(entriesText(entries(put("q", 9, "q")))), 20, 'x') + found,
		"behind a frame too long":    "W\xff\xff\x0f\x00" + long(59) + found,
		"ahead of what is cut":       found + batch(long(500))[:400],
		"behind a page that goes on": "c" + long(63) + found,
		"twice":                      found + found,
	} {
		list = append(list, sample{what, holding("f", data)})
	}
	return list
}

func TestViewInTheMidstOfOtherBytes(t *testing.T) {
	big := put("big", 1, long(4000))
	for _, c := range []struct {
		e    impl.Entry
		data string
	}{{put("a", 5, "five"), logText(entries(put("a", 5, "five")))}, {big, logText(entries(big))}, {put("a", 5, "five"), blockText(entries(put("a", 5, "five")))}, {big, blockText(entries(big))}} {
		for _, s := range inMidst(c.data) {
			expectView(t, s.what, s.fs, c.e.Seq, c.e)
		}
		// Frames begin at pages.
		for _, ahead := range []string{"x", long(63), long(65)} {
			expectView(t, strconv.Itoa(len(ahead))+" bytes ahead", holding("f", ahead+c.data), 0)
		}
		for at := range len(c.data) {
			expectView(t, "cut at "+strconv.Itoa(at), holding("f", c.data[:at]), 0)
			if at < 5 || at > 200 {
				continue
			}
			expectView(t, "turned at "+strconv.Itoa(at), holding("f", withByte(c.data, at, c.data[at]^64)), 0)
		}
	}
}

func TestViewTakesTwoKinds(t *testing.T) {
	payload := entriesText(entries(put("a", 1, "1")))
	for _, kind := range frameKinds() {
		fs := holding("f", impl.Frame(kind, payload))
		if kind == impl.FrameBlock || kind == impl.FrameBatch {
			expectView(t, "kind "+strconv.Itoa(kind), fs, 1, put("a", 1, "1"))
			continue
		}
		expectView(t, "kind "+strconv.Itoa(kind), fs, 0)
	}
	all := blockText(entries(put("a", 1, "1"))) + logText(entries(put("b", 2, "2"))) + blockText(entries(put("c", 3, "3"))) + logText(entries(put("d", 4, "4"), del("a", 5)))
	expectView(t, "both kinds in one file", holding("f", all), 5, del("a", 5), put("b", 2, "2"), put("c", 3, "3"), put("d", 4, "4"))
	expectView(t, "a table", holding("f", sst(put("a", 9, "9"), put("a", 2, "2"), del("b", 4))), 9, put("a", 9, "9"), del("b", 4))
	long := copies(put("a", 1, "1"), 20)
	expectView(t, "a block of 20 entries in no order", holding("f", blockText(append(long, put("A", 2, "2")))), 2, put("A", 2, "2"), put("a", 1, "1"))
}

func TestViewPassesOverWhatIsNoList(t *testing.T) {
	good := entriesText(entries(put("a", 1, "1")))
	for _, payload := range []string{"", "x", good + "x", good[:len(good)-1], "\x80\x00", "\x02" + good[1:], "\x01\x01a\x00\x01\x00", "\x01\x00\x01\x01\x00", "\x01\x01a\x01\x02\x00", "\x01\x01a\x01\x00\x01v"} {
		for _, kind := range []int{impl.FrameBlock, impl.FrameBatch} {
			expectView(t, brief(payload), holding("f", impl.Frame(kind, payload)+impl.Frame(kind, entriesText(entries(put("b", 2, "2"))))), 2, put("b", 2, "2"))
		}
	}
}

func TestViewOfEqualSeqs(t *testing.T) {
	one := func(val string) []impl.Entry { return entries(put("k", 5, val)) }
	first := put("k", 5, "first")
	for what, fs := range map[string]impl.FS{
		"two batches of a file":             holding("f", logText(one("first"), one("second"))),
		"two entries of a batch":            holding("f", logText(entries(put("k", 5, "first"), put("k", 5, "second")))),
		"two blocks of a file":              holding("f", blockText(one("first"))+blockText(one("second"))),
		"a block behind a batch":            holding("f", logText(one("second"))+blockText(one("first"))),
		"two files":                         holding("f", logText(one("first")), "g", logText(one("second"))),
		"a batch, and a block in the next":  holding("f", logText(one("first")), "g", blockText(one("second"))),
		"the order is that of names":        holding("10.log", logText(one("first")), "9.log", logText(one("second"))),
		"a deletion behind it":              holding("f", logText(one("first"), entries(del("k", 5)))),
		"a deletion in the next file":       holding("f", logText(one("first")), "g", blockText(entries(del("k", 5)))),
		"lower Seqs around it":              holding("a", logText(entries(put("k", 4, "x"))), "f", logText(one("first")), "z", blockText(entries(put("k", 4, "x")))),
		"an archive and a repair before it": holding("a", blockText(one("first")), "lost/0", blockText(one("x")), "repair.x", blockText(one("x"))),
	} {
		expectView(t, what, fs, 5, first)
	}
	expectView(t, "a deletion ahead", holding("f", logText(entries(del("k", 5)), one("x"))), 5, del("k", 5))
}

func TestViewTellsTheGreatestSeq(t *testing.T) {
	expectView(t, "of a put", holding("f", logText(entries(put("a", 8, "8"), put("b", 2, "2")))), 8, put("a", 8, "8"), put("b", 2, "2"))
	expectView(t, "of a deletion", holding("f", logText(entries(del("b", 8))), "g", blockText(entries(put("a", 3, "3")))), 8, put("a", 3, "3"), del("b", 8))
	expectView(t, "the greatest that there is", holding("f", logText(entries(put("a", impl.MaxSeq, "8")))), impl.MaxSeq, put("a", impl.MaxSeq, "8"))
	expectView(t, "not that of the archive", holding("f", logText(entries(put("a", 8, "8"))), "lost/f", logText(entries(put("a", 9, "9")))), 8, put("a", 8, "8"))
	expectView(t, "not that of an edit", holding("MANIFEST-1", editFrame(impl.Edit{Log: 1, Next: 2, Last: 99}), "f", logText(entries(put("a", 8, "8")))), 8, put("a", 8, "8"))
}

// notMarks has texts that are no mark with the number 77.
func notMarks() map[string]string {
	good := markOf(77)
	list := map[string]string{
		"empty": "", "a byte": "x", "a byte behind": good + "x", "a zero behind": good + "\x00", "a page behind": good + pageOfZeros, "twice": good + good, "a page ahead": pageOfZeros + good,
		"cut": good[:63], "half": good[:32], "the number alone": varint(77), "no number": impl.Frame(impl.FrameMark, ""), "two numbers": impl.Frame(impl.FrameMark, varint(77)+varint(77)),
		"a zero behind the number": impl.Frame(impl.FrameMark, varint(77)+"\x00"), "a number with a group too many": impl.Frame(impl.FrameMark, "\xcd\x00"), "zero with a group too many": impl.Frame(impl.FrameMark, "\x80\x00"),
		"a number that does not end": impl.Frame(impl.FrameMark, "\xcd"), "a number above MaxSeq": impl.Frame(impl.FrameMark, varint(impl.MaxSeq+1)), "the greatest number of all": impl.Frame(impl.FrameMark, varint(maxInt)),
		"more pages than needed": plainFrame(impl.FrameMark, 1, impl.Crc("RM"), "M", strings.Repeat("\x00", 60)), "a tail": plainFrame(impl.FrameMark, 1, impl.Crc("RM"), "M", "\x01"),
	}
	for _, kind := range frameKinds() {
		if kind != impl.FrameMark {
			list["kind "+strconv.Itoa(kind)] = impl.Frame(kind, varint(77))
		}
	}
	for at := range len(good) {
		list["turned at "+strconv.Itoa(at)] = withByte(good, at, good[at]^1)
	}
	return list
}

// notTabs has texts that are no table.
func notTabs() map[string]string {
	good := tab()
	list := map[string]string{
		"empty": "", "a byte behind": good + "x", "a page behind": good + pageOfZeros, "cut": good[:len(good)-1], "no foot": good[:len(good)-64], "a block alone": good[:64], "a log": logText(entries(put("s", 3, "saved"))),
		"not in order": sst(put("b", 1, ""), put("a", 2, "")), "two blocks that could be one": partsOf(entries(put("a", 1, "")), entries(put("b", 2, ""))).text(), "a block without entries": partsOf(nil).text(),
	}
	for at := 0; at < len(good); at += 5 {
		list["turned at "+strconv.Itoa(at)] = withByte(good, at, good[at]^1)
	}
	return list
}

func goodTabs() map[string][]impl.Entry {
	many := []impl.Entry{}
	for i := range 30 {
		many = append(many, put("k"+strconv.Itoa(1000+i), i+1, long(i*20)))
	}
	return map[string][]impl.Entry{
		"two":     entries(put("s", 3, "saved"), put("t", 4, "too")),
		"none":    nil,
		"many":    many,
		"one key": entries(put("a", 3, "3"), del("a", 2), put("a", 1, "1")), "deletions": entries(del("a", 3), del("b", 900)),
	}
}

var wreckEntries = entries(put("a", 5, "five"), del("b", 9), put("c", 3, "three"))

func TestViewOfGoodMarks(t *testing.T) {
	for what, es := range goodTabs() {
		for _, n := range []int{0, 1, 77, 127, 128, 16384, impl.MaxSeq - 1, impl.MaxSeq} {
			what := what + " " + strconv.Itoa(n)
			expectView(t, what, marked("repair.ok", markOf(n), "repair.tab", sst(es...)), n, es...)
			expectView(t, what, marked("repair.go", markOf(n), "repair.tab", sst(es...)), n, es...)
			expectView(t, what+" and another", marked("repair.go", markOf(n), "repair.ok", markOf(5), "repair.tab", sst(es...)), n, es...)
			expectView(t, what+" and other files", marked("repair.go", markOf(n), "repair.ok", "x", "repair.tab", sst(es...), "repair.tmp", markOf(5), "repair.x", "x"), n, es...)
		}
	}
	expectView(t, "and nothing else", holding("repair.ok", markOf(77), "repair.tab", tab()), 77, goodTabs()["two"]...)
}

func TestViewOfBadMarks(t *testing.T) {
	for what, data := range notMarks() {
		expectView(t, what, marked("repair.ok", data, "repair.tab", tab()), 9, wreckEntries...)
		expectView(t, what, marked("repair.go", data, "repair.tab", tab()), 9, wreckEntries...)
		expectView(t, what+" both", marked("repair.go", data, "repair.ok", data, "repair.tab", tab()), 9, wreckEntries...)
		expectView(t, what+" for the one", marked("repair.go", data, "repair.ok", markOf(5), "repair.tab", tab()), 5, goodTabs()["two"]...)
		expectView(t, what+" for the other", marked("repair.go", markOf(6), "repair.ok", data, "repair.tab", tab()), 6, goodTabs()["two"]...)
	}
	for what, data := range notTabs() {
		for _, mark := range []string{"repair.ok", "repair.go"} {
			expectView(t, what+" with "+mark, marked(mark, markOf(77), "repair.tab", data), 9, wreckEntries...)
		}
		expectView(t, what+" with both", marked("repair.ok", markOf(77), "repair.go", markOf(78), "repair.tab", data), 9, wreckEntries...)
	}
	for _, mark := range []string{"repair.ok", "repair.go"} {
		expectView(t, mark+" alone", marked(mark, markOf(77)), 9, wreckEntries...)
		expectView(t, mark+" with a table in the archive", marked(mark, markOf(77), "lost/repair.tab", tab()), 9, wreckEntries...)
	}
	for _, name := range []string{"repair.tmp", "repair.", "repair.ok2", "repair.OK", "repair.ok.1", "lost/repair.ok", "repair.tab.1"} {
		expectView(t, name, marked(name, markOf(77), "repair.tab", tab()), 9, wreckEntries...)
	}
	expectView(t, "a table alone", marked("repair.tab", tab()), 9, wreckEntries...)
}
