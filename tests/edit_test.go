package tests

import (
	"strconv"
	"strings"
	"testing"

	"loop.example/s01733/impl"
)

func TestEditText(t *testing.T) {
	e := impl.Edit{
		Adds: []impl.TableRef{table(1, 0, "a", "bc"), table(300, 3, "", "")},
		Dels: []int{128, 2, 128}, Log: 5, Next: 16384, Last: 127,
	}
	e.Adds[1].Lo, e.Adds[1].Hi = "\x00", "\xff"
	s := "\x02" + "\x01\x00\x01a\x02bc" + "\xac\x02\x03\x01\x00\x01\xff" + "\x03\x80\x01\x02\x80\x01" + "\x05\x80\x80\x01\x7f"
	expectEncodedEdit(t, "an edit", e, s)
	expectDecodedEdit(t, "an edit", s, e, true)
	least := impl.Edit{Log: 1, Next: 1}
	expectEncodedEdit(t, "the least edit", least, "\x00\x00\x01\x01\x00")
	expectDecodedEdit(t, "the least edit", "\x00\x00\x01\x01\x00", least, true)
	expectEncodedEdit(t, "the zero edit", impl.Edit{}, "")
	expectNoEditText(t, "no text", "")
}

// edge is a number and whether a field may have it.
type edge struct {
	n  int
	ok bool
}

func edges(least int, most int) []edge {
	list := []edge{{least - 1, false}, {least, true}, {least + 1, true}, {most - 1, true}, {most, true}, {most + 1, false}}
	return append(list, edge{minInt, false}, edge{maxInt, false}, edge{-300, false})
}

func TestEditNumbers(t *testing.T) {
	fields := []struct {
		what  string
		least int
		most  int
		make  func(n int) impl.Edit
	}{
		{"Num", 1, 999999999, func(n int) impl.Edit { return adding(table(n, 1, "a", "b")) }},
		{"Num of the last Add", 1, 999999999, func(n int) impl.Edit { return adding(table(3, 1, "a", "b"), table(n, 1, "a", "b")) }},
		{"Level", 0, 3, func(n int) impl.Edit { return adding(table(1, n, "a", "b")) }},
		{"Del", 1, 999999999, func(n int) impl.Edit { return deleting(n) }},
		{"the last Del", 1, 999999999, func(n int) impl.Edit { return deleting(1, n) }},
		{"Log", 1, 999999999, func(n int) impl.Edit { return impl.Edit{Log: n, Next: 2} }},
		{"Next", 1, 999999999, func(n int) impl.Edit { return impl.Edit{Log: 2, Next: n} }},
		{"Last", 0, 72057594037927935, func(n int) impl.Edit { return impl.Edit{Log: 1, Next: 2, Last: n} }},
	}
	for _, f := range fields {
		for _, x := range edges(f.least, f.most) {
			expectEdit(t, f.what+" "+strconv.Itoa(x.n), f.make(x.n), x.ok)
		}
	}
}

func TestEditKeys(t *testing.T) {
	z := func(n int) string { return strings.Repeat("z", n) }
	cases := []struct {
		lo, hi string
		ok     bool
	}{
		{"", "", false}, {"", "a", false}, {"a", "", false}, {"a", "a", true}, {"a", "b", true}, {"b", "a", false},
		{"a", "ab", true}, {"ab", "a", false}, {"a", "a\x00", true}, {"a\x00", "a", false},
		{"a", "\x80", true}, {"\x80", "a", false}, {"\x00", "\xff", true}, {"\xff", "\x00", false}, {"\xfe", "\xff", true},
		{z(999), z(1000), true}, {z(1000), z(1000), true}, {z(1000), z(999), false},
		{z(1000), z(1001), false}, {z(1001), z(1001), false}, {"a" + z(1000), z(1000), false}, {"a" + z(999), z(1000), true},
	}
	for _, c := range cases {
		expectEdit(t, brief(c.lo)+" to "+brief(c.hi), adding(table(1, 0, c.lo, c.hi)), c.ok)
		expectEdit(t, "last: "+brief(c.lo)+" to "+brief(c.hi), adding(table(1, 0, "a", "b"), table(1, 0, c.lo, c.hi)), c.ok)
	}
}

func TestEditCounts(t *testing.T) {
	for _, n := range []int{0, 1, 2, 127, 128, 999, 1000, 1001, 1002, 3000} {
		what := strconv.Itoa(n)
		expectEdit(t, what+" adds", adding(tables(1, n)...), n <= 1000)
		expectEdit(t, what+" dels", deleting(numbers(1, n)...), n <= 1000)
		both := adding(tables(1, n)...)
		both.Dels = numbers(1, n)
		expectEdit(t, what+" of both", both, n <= 1000)
	}
	e := adding(table(1, 0, strings.Repeat("a", 1000), strings.Repeat("b", 1000)))
	for len(e.Adds) < 1000 {
		e.Adds = append(e.Adds, e.Adds[0])
	}
	expectEdit(t, "an edit that no frame can hold", e, true)
}

// An edit that only ApplyEdit refuses is an edit all the same.
func TestEditThatCannotBeApplied(t *testing.T) {
	e := impl.Edit{Adds: []impl.TableRef{table(9, 1, "a", "b"), table(9, 1, "a", "b")}, Dels: []int{4, 4}, Log: 8, Next: 3}
	expectEdit(t, "numbers twice and above Next", e, true)
}

func TestEditTextsThatAreNone(t *testing.T) {
	e := impl.Edit{Adds: []impl.TableRef{table(300, 1, "a", "bc"), table(2, 0, "k", "k")}, Dels: []int{7, 200}, Log: 4, Next: 301, Last: 5}
	s := editText(e)
	for cut := range len(s) {
		expectNoEditText(t, "cut at "+strconv.Itoa(cut), s[:cut])
		expectNoEditText(t, "without the first "+strconv.Itoa(cut+1), s[cut+1:])
	}
	for b := range 256 {
		expectNoEditText(t, "a byte more", s+string([]byte{byte(b)}))
	}
	expectNoEditText(t, "twice", s+s)
	cases := []struct{ what, s string }{
		{"a long count of Adds", "\x81\x00" + "\x01\x00\x01a\x01a" + "\x00\x01\x02\x00"},
		{"a long Num", "\x01" + "\x81\x00\x00\x01a\x01a" + "\x00\x01\x02\x00"},
		{"a long Level", "\x01" + "\x01\x80\x00\x01a\x01a" + "\x00\x01\x02\x00"},
		{"a long size of Lo", "\x01" + "\x01\x00\x81\x00a\x01a" + "\x00\x01\x02\x00"},
		{"a long size of Hi", "\x01" + "\x01\x00\x01a\x81\x00a" + "\x00\x01\x02\x00"},
		{"a long count of Dels", "\x00\x81\x00\x01\x01\x02\x00"},
		{"a long count of no Dels", "\x00\x80\x00\x01\x02\x00"},
		{"a long Del", "\x00\x01\x81\x00\x01\x02\x00"},
		{"a long Log", "\x00\x00\x81\x00\x02\x00"},
		{"a long Next", "\x00\x00\x01\x82\x00\x00"},
		{"a long Last", "\x00\x00\x01\x02\x80\x00"},
		{"a Last of nine bytes", "\x00\x00\x01\x02\x80\x80\x80\x80\x80\x80\x80\x80\x01"},
		{"Lo beyond the end", "\x01\x01\x00\x0aa\x01a\x00\x01\x02\x00"},
		{"Lo one beyond the end", "\x01\x01\x00\x02a"},
		{"Hi beyond the end", "\x01\x01\x00\x01a\x7fa\x00\x01\x02\x00"},
		{"Hi far beyond the end", "\x01\x01\x00\x01a" + varint(impl.MaxSeq) + "a\x00\x01\x02\x00"},
		{"Lo far beyond the end", "\x01\x01\x00" + varint(impl.MaxSeq) + "a\x01a\x00\x01\x02\x00"},
		{"more Adds than there are", "\x02\x01\x00\x01a\x01a\x00\x01\x02\x00"},
		{"fewer Adds than there are", "\x00\x01\x00\x01a\x01a\x00\x01\x02\x00"},
		{"Adds without end", varint(impl.MaxSeq) + "\x01\x00\x01a\x01a\x00\x01\x02\x00"},
		{"more Dels than there are", "\x00\x02\x01\x01\x02\x00"},
		{"Dels without end", "\x00" + varint(impl.MaxSeq) + "\x01\x01\x02\x00"},
	}
	for _, c := range cases {
		expectNoEditText(t, c.what, c.s)
	}
}

func (d *dice) tableRef() impl.TableRef {
	lo, hi := d.text(1+d.below(4)), d.text(1+d.below(4))
	return table(1+d.below(1<<(1+d.below(28))), d.below(4), min(lo, hi), max(lo, hi))
}

func (d *dice) edit() impl.Edit {
	e := impl.Edit{Log: 1 + d.below(500), Next: 1 + d.below(500), Last: d.below(1 << (1 + d.below(40)))}
	for range d.below(4) {
		e.Adds = append(e.Adds, d.tableRef())
	}
	for range d.below(4) {
		e.Dels = append(e.Dels, 1+d.below(500))
	}
	return e
}

func TestEditsThereAndBack(t *testing.T) {
	d := &dice{state: 11}
	for range 3000 {
		expectEdit(t, "an edit of the dice", d.edit(), true)
	}
}

func TestNothingElseIsAnEdit(t *testing.T) {
	d := &dice{state: 12}
	read := 0
	for range 30000 {
		s := editText(d.edit())
		for range 1 + d.below(2) {
			s = d.edited(s)
		}
		if expectOnlyWrittenEdit(t, s) {
			read++
		}
	}
	if read == 0 || read == 30000 {
		t.Errorf("%d of 30000 texts are edits: the dice are loaded", read)
	}
}

// What two calls answer, and the two lists of one answer, are apart.
func TestEditAnswersAreApart(t *testing.T) {
	s := editText(impl.Edit{Adds: tables(1, 3), Dels: []int{4, 5, 6}, Log: 1, Next: 9})
	first, _ := impl.DecodeEdit(s)
	second, _ := impl.DecodeEdit(s)
	kept := copyEdit(second)
	scribble(first.Adds)
	for i := range first.Dels[:cap(first.Dels)] {
		first.Dels[:cap(first.Dels)][i] = -1
	}
	if !sameEdit(second, kept) {
		t.Error("two answers share memory")
	}
}
