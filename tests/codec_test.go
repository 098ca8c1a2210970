package tests

import (
	"encoding/binary"
	"strconv"
	"strings"
	"testing"

	"loop.example/s01733/impl"
)

// Promise 2: numbers.

func TestVarintsAsTheDocumentWritesThem(t *testing.T) {
	for n, want := range map[int]string{
		0: "\x00", 1: "\x01", 127: "\x7f", 128: "\x80\x01", 129: "\x81\x01", 300: "\xac\x02",
		16383: "\xff\x7f", 16384: "\x80\x80\x01",
		impl.MaxSeq - 1: "\xfe\xff\xff\xff\xff\xff\xff\x7f",
		impl.MaxSeq:     "\xff\xff\xff\xff\xff\xff\xff\x7f",
		// What is out of range is not written.
		impl.MaxSeq + 1: "", 1 << 62: "", maxInt: "", -1: "", -128: "", minInt: "", minInt + 1: "",
	} {
		if got := impl.PutVarint(n); got != want {
			t.Errorf("PutVarint %d gave %q, want %q", n, got, want)
		}
	}
}

func TestVarintsThereAndBack(t *testing.T) {
	numbers := []int{}
	for shift := range 56 {
		for _, by := range []int{-2, -1, 0, 1} {
			numbers = append(numbers, max(0, 1<<shift+by))
		}
	}
	numbers = append(numbers, impl.MaxSeq-1, impl.MaxSeq)
	for n := range 70000 {
		numbers = append(numbers, n)
	}
	for _, n := range numbers {
		s := impl.PutVarint(n)
		if plain := string(binary.AppendUvarint(nil, uint64(n))); s != plain {
			t.Fatalf("PutVarint %d gave %q, want %q", n, s, plain)
		}
		expectVarint(t, s, 0, n, len(s), true)
		expectVarint(t, "\xff\x00\x80"+s+"\x80\x00", 3, n, 3+len(s), true)
		expectVarint(t, s[:len(s)-1], 0, 0, 0, false)
	}
}

func TestVarintsThatAreNone(t *testing.T) {
	for _, c := range []struct {
		what string
		s    string
		at   int
	}{
		{"nothing", "", 0},
		{"the end", "a", 1},
		{"behind the end", "a", 2},
		{"far behind the end", "a", maxInt},
		{"below 0", "a", -1},
		{"far below 0", "a", minInt},
		{"0 in two bytes", "\x80\x00", 0},
		{"1 in two bytes", "\x81\x00", 0},
		{"127 in three bytes", "\xff\x80\x00", 0},
		{"0 in eight bytes", "\x80\x80\x80\x80\x80\x80\x80\x00", 0},
		{"MaxSeq in nine bytes", "\xff\xff\xff\xff\xff\xff\xff\xff\x00", 0},
		{"one more than MaxSeq", "\x80\x80\x80\x80\x80\x80\x80\x80\x01", 0},
		{"2 to the 63rd", "\x80\x80\x80\x80\x80\x80\x80\x80\x80\x01", 0},
		{"2 to the 64th and 5", "\x85\x80\x80\x80\x80\x80\x80\x80\x80\x02", 0},
		{"2 to the 70th and 5", "\x85\x80\x80\x80\x80\x80\x80\x80\x80\x80\x01", 0},
		{"cut behind one byte", "\x80", 0},
		{"cut behind seven bytes", "\xff\xff\xff\xff\xff\xff\xff", 0},
		{"cut behind eight bytes", "\xff\xff\xff\xff\xff\xff\xff\xff", 0},
		{"very many bytes", strings.Repeat("\x80", 100000) + "\x01", 0},
		{"very many bytes without an end", strings.Repeat("\xff", 100000), 0},
		{"0 in two bytes at a later place", "\x01\x80\x00", 1},
	} {
		n, next, ok := impl.GetVarint(c.s, c.at)
		if n != 0 || next != 0 || ok {
			t.Errorf("%s: GetVarint gave %d %d %v", c.what, n, next, ok)
		}
	}
}

// Of every two and many three bytes: what is read is what is written so.
func TestVarintsAreReadOnlyAsWritten(t *testing.T) {
	for n := range 1 << 22 {
		s := string([]byte{byte(n), byte(n >> 8), byte((n >> 16) * 5)})
		got, next, ok := impl.GetVarint(s, 0)
		plain, size := binary.Uvarint([]byte(s))
		wantOk := size > 0 && (size == 1 || s[size-1] != 0)
		if ok != wantOk || ok && (got != int(plain) || next != size || impl.PutVarint(got) != s[:next]) || !ok && (got != 0 || next != 0) {
			t.Fatalf("GetVarint of %q gave %d %d %v", s, got, next, ok)
		}
	}
}

func TestCrcOfTheDocument(t *testing.T) {
	for s, want := range map[string]int{"": 0, "123456789": 0xe3069283} {
		if got := impl.Crc(s); got != want {
			t.Errorf("Crc of %q is %x, want %x", s, got, want)
		}
	}
}

func TestCrcAgainstTheLibrary(t *testing.T) {
	d := &dice{state: 2}
	texts := []string{"\x00", "\xff", strings.Repeat("\x00", 32), strings.Repeat("\xff", 32), strings.Repeat("ab", 5000)}
	for b := range 256 {
		texts = append(texts, string([]byte{byte(b)}))
	}
	for size := range 300 {
		texts = append(texts, d.text(size))
	}
	for _, s := range texts {
		if got, want := impl.Crc(s), crcOf(s); got != want {
			t.Errorf("Crc of %s is %x, want %x", brief(s), got, want)
		}
	}
}

// Promise 2: entries.

func TestEntriesAsTheDocumentWritesThem(t *testing.T) {
	long := strings.Repeat("k", 1000)
	great := strings.Repeat("v", 4000)
	for _, c := range []struct {
		what string
		es   []impl.Entry
		s    string
	}{
		{"nil", nil, "\x00"},
		{"no entry", []impl.Entry{}, "\x00"},
		{"a put", []impl.Entry{put("ab", 300, "x")}, "\x01\x02ab\xac\x02\x01\x01x"},
		{"a put of nothing", []impl.Entry{put("a", 1, "")}, "\x01\x01a\x01\x01\x00"},
		{"a deletion", []impl.Entry{del("c", 1)}, "\x01\x01c\x01\x00\x00"},
		{"neither order nor apartness is asked for", []impl.Entry{put("b", 2, "1"), del("a", 9), put("b", 2, "1")}, "\x03\x01b\x02\x01\x011\x01a\x09\x00\x00\x01b\x02\x01\x011"},
		{"bytes of all kinds", []impl.Entry{put("\x00\xff", 1, "\x80\n\x00")}, "\x01\x02\x00\xff\x01\x01\x03\x80\n\x00"},
		{"the greatest of all", []impl.Entry{put(long, impl.MaxSeq, great)}, "\x01\xe8\x07" + long + "\xff\xff\xff\xff\xff\xff\xff\x7f\x01\xa0\x1f" + great},
		{"the longest key of a deletion", []impl.Entry{del(long, 1)}, "\x01\xe8\x07" + long + "\x01\x00\x00"},
		{"as many as may be", copies(del("k", 1), 1000), "\xe8\x07" + strings.Repeat("\x01k\x01\x00\x00", 1000)},
	} {
		expectEncoded(t, c.what, c.es, c.s)
		expectDecoded(t, c.what, c.s, c.es, true)
	}
}

func TestEntriesThatAreNotWritten(t *testing.T) {
	good := put("k", 1, "v")
	for what, e := range map[string]impl.Entry{
		"the zero entry":                 {},
		"no key":                         put("", 1, "v"),
		"a key that is too long":         put(strings.Repeat("k", 1001), 1, "v"),
		"a deleted key that is too long": del(strings.Repeat("k", 1001), 1),
		"no seq":                         put("k", 0, "v"),
		"a seq below 0":                  put("k", -1, "v"),
		"the least seq":                  put("k", minInt, "v"),
		"a seq that is too great":        put("k", impl.MaxSeq+1, "v"),
		"the greatest seq":               put("k", maxInt, "v"),
		"a value that is too long":       put("k", 1, strings.Repeat("v", 4001)),
		"a deletion with a value":        {Key: "k", Seq: 1, Kind: impl.KindDelete, Val: "v"},
		"kind 2":                         {Key: "k", Seq: 1, Kind: 2},
		"kind -1":                        {Key: "k", Seq: 1, Kind: -1},
		"kind 256":                       {Key: "k", Seq: 1, Kind: 256},
		"kind 257":                       {Key: "k", Seq: 1, Kind: 257, Val: "v"},
		"the greatest kind":              {Key: "k", Seq: 1, Kind: maxInt},
	} {
		expectEncoded(t, what, []impl.Entry{e}, "")
		expectEncoded(t, what+", ahead of a good one", []impl.Entry{e, good}, "")
		expectEncoded(t, what+", behind a good one", []impl.Entry{good, e}, "")
	}
	expectEncoded(t, "one too many", copies(good, 1001), "")
	expectEncoded(t, "very many", copies(good, 20000), "")
}

func TestTextsThatAreNoEntries(t *testing.T) {
	long := "\xe8\x07" + strings.Repeat("k", 1000)
	for what, s := range map[string]string{
		"nothing":                        "",
		"a count that is cut":            "\x80",
		"a count with a byte too many":   "\x81\x00\x01a\x01\x01\x00",
		"no entry, and a byte":           "\x00\x00",
		"a count without entries":        "\x01",
		"a count one too great":          "\x02\x01a\x01\x01\x00",
		"a count one too small":          "\x01\x01a\x01\x01\x00\x01b\x02\x01\x00",
		"a count of 1001":                "\xe9\x07" + strings.Repeat("\x01k\x01\x00\x00", 1001),
		"a count beyond all":             "\xff\xff\xff\xff\xff\xff\xff\x7f\x01a\x01\x01\x00",
		"no key":                         "\x01\x00\x01\x01\x00",
		"a key size that is cut":         "\x01\x80",
		"a key size with too many bytes": "\x01\x81\x00a\x01\x01\x00",
		"a key that is too long":         "\x01\xe9\x07" + strings.Repeat("k", 1001) + "\x01\x01\x00",
		"a key beyond the end":           "\x01\x7fa\x01\x01\x00",
		"a key just beyond the end":      "\x01\x02a",
		"a key far beyond the end":       "\x01\xff\xff\xff\xff\xff\xff\xff\x7fa\x01\x01\x00",
		"no seq":                         "\x01\x01a",
		"seq 0":                          "\x01\x01a\x00\x01\x00",
		"a seq with too many bytes":      "\x01\x01a\x81\x00\x01\x00",
		"a seq that is too great":        "\x01\x01a\x80\x80\x80\x80\x80\x80\x80\x80\x01\x01\x00",
		"no kind":                        "\x01\x01a\x01",
		"kind 2":                         "\x01\x01a\x01\x02\x00",
		"kind 255":                       "\x01\x01a\x01\xff\x00",
		"kind 129 as a varint of 1":      "\x01\x01a\x01\x81\x00\x00",
		"no size of the value":           "\x01\x01a\x01\x01",
		"no size of a deletion's value":  "\x01\x01a\x01\x00",
		"a value that is cut":            "\x01\x01a\x01\x01\x02x",
		"a value beyond the end":         "\x01\x01a\x01\x01\xff\xff\xff\xff\xff\xff\xff\x7fx",
		"a deletion's value":             "\x01\x01a\x01\x00\x01x",
		"a deletion's value that is cut": "\x01\x01a\x01\x00\x01",
		"a value that is too long":       "\x01\x01a\x01\x01\xa1\x1f" + strings.Repeat("v", 4001),
		"a byte more":                    "\x01\x01a\x01\x01\x01xy",
		"the longest key and a byte":     "\x01" + long + "\x01\x00\x00\x00",
	} {
		expectRefused(t, what, s)
	}
}

func TestEntriesWithAByteMoreOrLess(t *testing.T) {
	d := &dice{state: 3}
	for n := range 12 {
		es := d.entries(n)
		expectThereAndBack(t, strconv.Itoa(n)+" entries", es)
		s := impl.EncodeEntries(es)
		for size := range len(s) {
			expectRefused(t, "cut", s[:size])
		}
		for b := range 256 {
			expectRefused(t, "a byte more", s+string([]byte{byte(b)}))
		}
	}
}

func TestManyAndGreatEntries(t *testing.T) {
	d := &dice{state: 4}
	expectThereAndBack(t, "a full batch", d.entries(1000))
	expectThereAndBack(t, "a full batch of the greatest", copies(put(d.text(1000), impl.MaxSeq, d.text(4000)), 1000))
	expectThereAndBack(t, "one less", d.entries(999))
}

// What is read is written in the same bytes: texts near good ones, and all
// short texts of some bytes.
func TestEntriesAreReadOnlyAsWritten(t *testing.T) {
	d := &dice{state: 5}
	read := 0
	for range 60000 {
		s := impl.EncodeEntries(d.entries(1 + d.below(4)))
		for range 1 + d.below(2) {
			s = d.edited(s)
		}
		if expectOnlyWritten(t, s) {
			read++
		}
	}
	if read < 5000 {
		t.Errorf("only %d texts were read: the edits miss their purpose", read)
	}
	bytes := "\x00\x01\x02\x80\x81a"
	for n := range 6 * 6 * 6 * 6 * 6 * 6 * 6 {
		s := ""
		for rest := n; rest > 0; rest /= 6 {
			s += bytes[rest%6 : rest%6+1]
		}
		expectOnlyWritten(t, s)
	}
}

func TestDecodedEntriesAreNew(t *testing.T) {
	s := impl.EncodeEntries([]impl.Entry{put("a", 1, "x"), del("b", 2)})
	first, _ := impl.DecodeEntries(s)
	first[0] = impl.Entry{}
	_ = append(first[:1], impl.Entry{})
	expectDecoded(t, "the second time", s, []impl.Entry{put("a", 1, "x"), del("b", 2)}, true)
}
