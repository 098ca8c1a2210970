package tests

import (
	"slices"
	"strings"
	"testing"

	"loop.example/s01733/impl"
)

const minInt = -maxInt - 1

func put(key string, seq int, val string) impl.Entry {
	return impl.Entry{Key: key, Seq: seq, Kind: impl.KindPut, Val: val}
}

func del(key string, seq int) impl.Entry {
	return impl.Entry{Key: key, Seq: seq, Kind: impl.KindDelete}
}

func copies(e impl.Entry, n int) []impl.Entry {
	return slices.Repeat([]impl.Entry{e}, n)
}

func expectVarint(t *testing.T, s string, at int, n int, next int, ok bool) {
	t.Helper()
	gotN, gotNext, gotOk := impl.GetVarint(s, at)
	if gotN != n || gotNext != next || gotOk != ok {
		t.Errorf("GetVarint %s at %d gave %d %d %v, want %d %d %v", brief(s), at, gotN, gotNext, gotOk, n, next, ok)
	}
}

func expectEncoded(t *testing.T, what string, es []impl.Entry, want string) {
	t.Helper()
	before := slices.Clone(es)
	if got := impl.EncodeEntries(es); got != want {
		t.Errorf("%s: EncodeEntries gave %s, want %s", what, brief(got), brief(want))
	}
	if !slices.Equal(es, before) {
		t.Errorf("%s: EncodeEntries changed its argument", what)
	}
}

func expectDecoded(t *testing.T, what string, s string, want []impl.Entry, wantOk bool) {
	t.Helper()
	got, ok := impl.DecodeEntries(s)
	if ok != wantOk || !slices.Equal(got, want) {
		t.Errorf("%s: DecodeEntries %s gave %d entries and %v, want %d and %v", what, brief(s), len(got), ok, len(want), wantOk)
	}
}

func expectRefused(t *testing.T, what string, s string) {
	t.Helper()
	expectDecoded(t, what, s, nil, false)
}

// expectThereAndBack is promise 2 for one list.
func expectThereAndBack(t *testing.T, what string, es []impl.Entry) {
	t.Helper()
	s := impl.EncodeEntries(es)
	if s == "" {
		t.Errorf("%s: EncodeEntries gave nothing", what)
		return
	}
	expectDecoded(t, what, s, es, true)
}

// expectOnlyWritten is the other half of it: what is read is written so.
func expectOnlyWritten(t *testing.T, s string) bool {
	t.Helper()
	es, ok := impl.DecodeEntries(s)
	if !ok && len(es) > 0 {
		t.Errorf("%s is refused, and gives %d entries", brief(s), len(es))
	}
	if ok && (s == "" || impl.EncodeEntries(es) != s) {
		t.Errorf("%s is read as %#v, which is written %s", brief(s), es, brief(impl.EncodeEntries(es)))
	}
	return ok
}

// edited is s with one byte changed, put in or taken out.
func (d *dice) edited(s string) string {
	at := d.below(len(s))
	b := string([]byte{byte(d.below(256))})
	switch d.below(4) {
	case 0:
		return s[:at] + b + s[at:]
	case 1:
		return s[:at] + s[at+1:]
	case 2:
		return s[:at] + string([]byte{s[at] ^ 1<<d.below(8)}) + s[at+1:]
	}
	return s[:at] + b + s[at+1:]
}

func (d *dice) text(n int) string {
	b := make([]byte, n)
	for i := range b {
		b[i] = byte(d.below(256))
	}
	return string(b)
}

func (d *dice) entry() impl.Entry {
	e := impl.Entry{Key: d.text(1 + d.below(6)), Seq: 1 + d.below(1<<(1+d.below(20))), Kind: d.below(2)}
	if e.Kind == impl.KindPut {
		e.Val = d.text(d.below(150))
	}
	return e
}

func (d *dice) entries(n int) []impl.Entry {
	es := []impl.Entry{}
	for range n {
		es = append(es, d.entry())
	}
	return es
}

// The six kinds, and numbers that are none of them.
func frameKinds() []int {
	return []int{impl.FrameBlock, impl.FrameIndex, impl.FrameFoot, impl.FrameBatch, impl.FrameEdit, impl.FrameMark}
}

func otherKinds() []int {
	kinds := []int{-1, -190, 300, maxInt, minInt, impl.FrameBatch + 256, impl.FrameBatch - 256, impl.FrameBatch + 1<<32}
	for kind := range 256 {
		if !slices.Contains(frameKinds(), kind) {
			kinds = append(kinds, kind)
		}
	}
	return kinds
}

func expectFramed(t *testing.T, what string, s string, page int, want impl.Framed) {
	t.Helper()
	if got := impl.ReadFrame(s, page); got != want {
		t.Errorf("%s: page %d of %s gave %v %d %s %d, want %v %d %s %d", what, page, brief(s), got.Ok, got.Kind, brief(got.Payload), got.Next, want.Ok, want.Kind, brief(want.Payload), want.Next)
	}
}

func expectNoFrame(t *testing.T, what string, s string, page int) {
	t.Helper()
	expectFramed(t, what, s, page, impl.Framed{})
}

// plainFrame is the frame told once more from the document: first all that the
// pages hold, then a first byte ahead of each 63 bytes of it.
func plainFrame(kind int, size int, crc int, payload string, tail string) string {
	content := ""
	for _, word := range []int{size, crc} {
		for range 4 {
			content += string([]byte{byte(word % 256)})
			word /= 256
		}
	}
	content += payload + tail
	content += strings.Repeat("\x00", (63-len(content)%63)%63)
	s := ""
	for at := 0; at < len(content); at += 63 {
		first := "c"
		if at == 0 {
			first = string([]byte{byte(kind)})
		}
		s += first + content[at:at+63]
	}
	return s
}

func expectLog(t *testing.T, what string, s string, kind int, want []string, wantPages int) {
	t.Helper()
	got, pages := impl.ReadLog(s, kind)
	if !slices.Equal(got, want) || pages != wantPages {
		t.Errorf("%s: ReadLog gave %d payloads and %d pages, want %d and %d", what, len(got), pages, len(want), wantPages)
	}
}

func expectSalvaged(t *testing.T, what string, s string, kind int, want []string) {
	t.Helper()
	if got := impl.Salvage(s, kind); !slices.Equal(got, want) {
		t.Errorf("%s: Salvage gave %d payloads, want %d", what, len(got), len(want))
	}
}

func batch(payload string) string {
	return impl.Frame(impl.FrameBatch, payload)
}

// withByte is s with another byte at a place.
func withByte(s string, at int, b byte) string {
	return s[:at] + string([]byte{b}) + s[at+1:]
}
