package tests

import (
	"hash/crc32"
	"slices"
	"strconv"
	"strings"
	"testing"

	"loop.example/s01733/impl"
)

// Promise 3.

func TestFramesAsTheDocumentWritesThem(t *testing.T) {
	zeros := func(n int) string { return strings.Repeat("\x00", n) }
	expectText := func(what string, got string, want string) {
		t.Helper()
		if got != want {
			t.Errorf("%s: %q, want %q", what, got, want)
		}
	}
	expectText("hello", impl.Frame(impl.FrameBatch, "hello"), "W\x05\x00\x00\x00"+word(crcOf("Whello"))+"hello"+zeros(50))
	expectText("nothing", impl.Frame(impl.FrameMark, ""), "R\x00\x00\x00\x00"+word(crcOf("R"))+zeros(55))
	x55, x56, x300 := strings.Repeat("x", 55), strings.Repeat("x", 56), strings.Repeat("x", 300)
	expectText("just a page", impl.Frame(impl.FrameBlock, x55), "B\x37\x00\x00\x00"+word(crcOf("B"+x55))+x55)
	expectText("one byte more", impl.Frame(impl.FrameBlock, x56), "B\x38\x00\x00\x00"+word(crcOf("B"+x56))+x55+"cx"+zeros(62))
	expectText("five pages", impl.Frame(impl.FrameFoot, x300), "F\x2c\x01\x00\x00"+word(crcOf("F"+x300))+x55+strings.Repeat("c"+x300[:63], 3)+"c"+x300[:56]+zeros(7))
}

// crcOf is the library's, so that frames are held against something else than
// the program's own checksum.
func crcOf(s string) int {
	return int(crc32.Checksum([]byte(s), crc32.MakeTable(crc32.Castagnoli)))
}

// word is a number in four bytes, the lowest first.
func word(n int) string {
	return string([]byte{byte(n % 256), byte(n / 256 % 256), byte(n / 65536 % 256), byte(n / 16777216 % 256)})
}

func payloadSizes() []int {
	sizes := []int{0, 1, 54, 55, 56, 57, 63, 64, 117, 118, 119, 255, 256, 65535, 65536, impl.MaxPayload - 1, impl.MaxPayload}
	for pages := 3; pages < 8; pages++ {
		sizes = append(sizes, pages*63-9, pages*63-8, pages*63-7)
	}
	return sizes
}

func TestFramesThereAndBack(t *testing.T) {
	d := &dice{state: 6}
	great := d.text(impl.MaxPayload)
	for _, size := range payloadSizes() {
		for _, kind := range frameKinds() {
			if size > 1000 && kind != impl.FrameBatch && kind != impl.FrameBlock {
				continue
			}
			payload := great[:size]
			s := impl.Frame(kind, payload)
			pages := (8 + size + 62) / 63
			what := "kind " + strconv.Itoa(kind) + " size " + strconv.Itoa(size)
			if len(s) != pages*64 {
				t.Fatalf("%s: %d bytes", what, len(s))
			}
			if size < 1000 && s != plainFrame(kind, size, crcOf(string([]byte{byte(kind)})+payload), payload, "") {
				t.Errorf("%s: %s", what, brief(s))
			}
			expectFramed(t, what, s, 0, impl.Framed{Ok: true, Kind: kind, Payload: payload, Next: pages})
			expectFramed(t, what+" with something behind", s+"?", 0, impl.Framed{Ok: true, Kind: kind, Payload: payload, Next: pages})
			expectFramed(t, what+" with a page of it behind", s+"c"+strings.Repeat("\x00", 63), 0, impl.Framed{Ok: true, Kind: kind, Payload: payload, Next: pages})
			expectFramed(t, what+" behind rubbish", strings.Repeat("?", 192)+s+s, 3, impl.Framed{Ok: true, Kind: kind, Payload: payload, Next: 3 + pages})
			expectNoFrame(t, what+" not at a page", "?"+s+s, 0)
			expectNoFrame(t, what+" not at a page", strings.Repeat("?", 63)+s+s, 1)
			expectNoFrame(t, what+" cut by a byte", s[:len(s)-1], 0)
			expectNoFrame(t, what+" cut by a page", s[:len(s)-64], 0)
		}
	}
}

func TestFramesOfZerosAndOfLastBytes(t *testing.T) {
	for _, b := range []string{"\x00", "\xff", "c", "W", "B"} {
		for size := range 200 {
			payload := strings.Repeat(b, size)
			expectFramed(t, "alike bytes", batch(payload), 0, impl.Framed{Ok: true, Kind: impl.FrameBatch, Payload: payload, Next: (size + 70) / 63})
		}
	}
}

func TestFramesThatAreNotWritten(t *testing.T) {
	for _, kind := range otherKinds() {
		if got := impl.Frame(kind, "x"); got != "" {
			t.Errorf("Frame of kind %d gave %s", kind, brief(got))
		}
		// Nor read: such a page with all else right.
		if kind >= 0 && kind < 256 {
			expectNoFrame(t, "kind "+strconv.Itoa(kind), plainFrame(kind, 1, crcOf(string([]byte{byte(kind)})+"x"), "x", ""), 0)
		}
	}
	great := strings.Repeat("x", impl.MaxPayload+1)
	for _, kind := range frameKinds() {
		if impl.Frame(kind, great) != "" {
			t.Errorf("Frame of kind %d takes a payload that is too long", kind)
		}
	}
	if impl.Frame(impl.FrameMore, great) != "" || impl.Frame(impl.FrameMore, "") != "" {
		t.Error("FrameMore is no kind of a frame")
	}
}

func TestPagesWhereThereIsNoFrame(t *testing.T) {
	s := batch(strings.Repeat("x", 100)) + batch("y")
	for _, page := range []int{-1, -2, -64, minInt, minInt + 1, minInt / 64, 1, 3, 4, 63, 64, 128, maxInt, maxInt - 1, maxInt / 64, maxInt/64 + 1,
		1 << 58, 1<<58 + 2, 1 << 57, 1<<57 + 2, 1 << 62, -(1 << 58), -(1 << 57)} {
		expectNoFrame(t, "two frames", s, page)
		expectNoFrame(t, "the empty text", "", page)
	}
	expectNoFrame(t, "the empty text", "", 0)
	for size := range 64 {
		expectNoFrame(t, "less than a page", s[128:128+size], 0)
	}
	expectNoFrame(t, "zeros", strings.Repeat("\x00", 640), 0)
	expectNoFrame(t, "the kind alone", strings.Repeat("W", 640), 0)
	expectFramed(t, "the second frame", s, 2, impl.Framed{Ok: true, Kind: impl.FrameBatch, Payload: "y", Next: 3})
}

func TestFramesCutAnywhere(t *testing.T) {
	s := batch(strings.Repeat("x", 200))
	for size := range len(s) {
		expectNoFrame(t, "cut", s[:size], 0)
		expectNoFrame(t, "cut, behind a page", strings.Repeat("\x00", 64)+s[:size], 1)
	}
}

func TestFramesWithOneBitTurned(t *testing.T) {
	d := &dice{state: 7}
	for _, size := range []int{0, 1, 20, 55, 56, 117, 118, 119, 300} {
		for _, kind := range frameKinds() {
			s := impl.Frame(kind, d.text(size))
			for at := range len(s) {
				for bit := range 8 {
					hurt := withByte(s, at, s[at]^1<<bit)
					got := impl.ReadFrame(hurt, 0)
					inSize := at >= 1 && at < 5
					if !inSize && got != (impl.Framed{}) {
						t.Fatalf("kind %d size %d: byte %d bit %d turned, and it is read: %#v", kind, size, at, bit, got)
					}
					// With a bit of the size turned it may be a frame by chance, but then it is one wholly.
					if got.Ok && impl.Frame(got.Kind, got.Payload) != hurt[:got.Next*64] {
						t.Fatalf("kind %d size %d: byte %d bit %d turned gives what is not there", kind, size, at, bit)
					}
				}
			}
		}
	}
}

func TestFramesThatAreNearlyRight(t *testing.T) {
	crc := crcOf("Wxyz")
	good := plainFrame('W', 3, crc, "xyz", "")
	expectFramed(t, "the right one", good, 0, impl.Framed{Ok: true, Kind: 'W', Payload: "xyz", Next: 1})
	expectNoFrame(t, "a byte behind the payload", plainFrame('W', 3, crc, "xyz", "\x01"), 0)
	expectNoFrame(t, "the last byte of the page", withByte(good, 63, 1), 0)
	expectNoFrame(t, "the checksum without the kind", plainFrame('W', 3, crcOf("xyz"), "xyz", ""), 0)
	expectNoFrame(t, "the checksum of another kind", plainFrame('B', 3, crc, "xyz", ""), 0)
	expectNoFrame(t, "the checksum with its bytes the other way", plainFrame('W', 3, turnedWord(crc), "xyz", ""), 0)
	expectNoFrame(t, "a size one less", plainFrame('W', 2, crc, "xyz", ""), 0)
	expectNoFrame(t, "a size one more", plainFrame('W', 4, crc, "xyz", ""), 0)
	expectFramed(t, "a zero more in the payload", plainFrame('W', 4, crcOf("Wxyz\x00"), "xyz", ""), 0, impl.Framed{Ok: true, Kind: 'W', Payload: "xyz\x00", Next: 1})
	two := plainFrame('W', 60, crcOf("W"+strings.Repeat("x", 60)), strings.Repeat("x", 60), "")
	expectFramed(t, "two pages", two, 0, impl.Framed{Ok: true, Kind: 'W', Payload: strings.Repeat("x", 60), Next: 2})
	for _, b := range []byte{0, 'W', 'B', 'C', 'b', 'd', 255} {
		expectNoFrame(t, "a second page that begins otherwise", withByte(two, 64, b), 0)
	}
	expectNoFrame(t, "the last byte of the second page", withByte(two, 127, 255), 0)
	expectNoFrame(t, "a page that begins with FrameMore", two, 1)
}

func turnedWord(n int) int {
	return n>>24&255 | n>>8&0xff00 | n<<8&0xff0000 | n<<24&0xff000000
}

func TestFramesWithASizeThatIsTooGreat(t *testing.T) {
	payload := strings.Repeat("x", impl.MaxPayload+1)
	// Everything is right but that it is too long.
	expectNoFrame(t, "MaxPayload and 1", framedAsIs('W', payload), 0)
	expectFramed(t, "MaxPayload", framedAsIs('W', payload[1:]), 0, impl.Framed{Ok: true, Kind: 'W', Payload: payload[1:], Next: 16645})
	rest := strings.Repeat("c"+strings.Repeat("x", 63), 4)
	for _, size := range []int{1 << 20, 1<<20 + 1, 1 << 24, 1<<31 - 1, 1 << 31, 1<<32 - 8, 1<<32 - 1} {
		for _, kind := range frameKinds() {
			s := string([]byte{byte(kind)}) + word(size) + strings.Repeat("\x00", 59) + rest
			expectNoFrame(t, "size "+strconv.Itoa(size), s, 0)
			expectSalvaged(t, "size "+strconv.Itoa(size), s+impl.Frame(kind, "y"), kind, []string{"y"})
		}
	}
}

// framedAsIs is plainFrame for long payloads.
func framedAsIs(kind byte, payload string) string {
	content := word(len(payload)) + word(crcOf(string([]byte{kind})+payload)) + payload
	var b strings.Builder
	for first := kind; content != ""; first = 'c' {
		part := content[:min(63, len(content))]
		content = content[len(part):]
		b.WriteString(string([]byte{first}) + part + strings.Repeat("\x00", 63-len(part)))
	}
	return b.String()
}

// Texts near frames: what is read stands there, and nothing stands there that
// is not read.
func TestFramesAreReadOnlyAsWritten(t *testing.T) {
	d := &dice{state: 8}
	read := 0
	for range 20000 {
		kind := frameKinds()[d.below(6)]
		s := impl.Frame(kind, strings.Repeat("\x00", d.below(3))+d.text(d.below(130)))
		for range d.below(3) {
			s = d.edited(s)
		}
		got := impl.ReadFrame(s, 0)
		if got.Ok != (got != (impl.Framed{})) {
			t.Fatalf("not Ok, but %#v", got)
		}
		if got.Ok {
			read++
			if again := impl.Frame(got.Kind, got.Payload); again == "" || !strings.HasPrefix(s, again) || got.Next*64 != len(again) {
				t.Fatalf("%q is read as %#v", s, got)
			}
		}
	}
	if read < 5000 {
		t.Errorf("only %d frames were read", read)
	}
}

// Promise 4.

func TestLogsOfTheDocument(t *testing.T) {
	a, b, c, d := batch("one"), batch(strings.Repeat("W", 300)), impl.Frame(impl.FrameBlock, "three"), batch("four")
	s := a + b + c + d
	expectLog(t, "batches ahead of a block", s, impl.FrameBatch, []string{"one", strings.Repeat("W", 300)}, 6)
	expectLog(t, "no block at the beginning", s, impl.FrameBlock, nil, 0)
	expectLog(t, "no edit at all", s, impl.FrameEdit, nil, 0)
	expectLog(t, "the block first", c+s, impl.FrameBlock, []string{"three"}, 1)
	expectLog(t, "all of one kind", a+b+d+a, impl.FrameBatch, []string{"one", strings.Repeat("W", 300), "four", "one"}, 8)
	expectLog(t, "a page of zeros ahead", strings.Repeat("\x00", 64)+s, impl.FrameBatch, nil, 0)
	expectLog(t, "something behind", a+"??", impl.FrameBatch, []string{"one"}, 1)
	expectLog(t, "a page behind", a+strings.Repeat("?", 64)+d, impl.FrameBatch, []string{"one"}, 1)
	expectLog(t, "nothing", "", impl.FrameBatch, nil, 0)
	expectLog(t, "empty payloads", batch("")+batch(""), impl.FrameBatch, []string{"", ""}, 2)

	expectSalvaged(t, "batches", s, impl.FrameBatch, []string{"one", strings.Repeat("W", 300), "four"})
	expectSalvaged(t, "blocks", s, impl.FrameBlock, []string{"three"})
	expectSalvaged(t, "edits", s, impl.FrameEdit, nil)
	expectSalvaged(t, "rubbish between", strings.Repeat("?", 128)+a+strings.Repeat("\x00", 64)+d+"?", impl.FrameBatch, []string{"one", "four"})
	expectSalvaged(t, "not at a page", a+"x"+d, impl.FrameBatch, []string{"one"})
	expectSalvaged(t, "at a page again", a+"x"+strings.Repeat("\x00", 63)+d, impl.FrameBatch, []string{"one", "four"})
	expectSalvaged(t, "nothing", "", impl.FrameBatch, nil)
	expectSalvaged(t, "less than a page", a[:63], impl.FrameBatch, nil)
	expectSalvaged(t, "empty payloads", batch("")+batch(""), impl.FrameBatch, []string{"", ""})
}

// Places without a frame must not count as frames of some kind.
func TestLogsOfKindsThatAreNone(t *testing.T) {
	s := batch("one") + strings.Repeat("\x00", 64) + strings.Repeat("c", 64) + batch("two") + "?"
	for _, text := range []string{s, s[64:], "", strings.Repeat("\x00", 640), strings.Repeat("c", 640)} {
		for _, kind := range otherKinds() {
			expectLog(t, "kind "+strconv.Itoa(kind), text, kind, nil, 0)
			expectSalvaged(t, "kind "+strconv.Itoa(kind), text, kind, nil)
		}
	}
}

// log is frames of kinds and sizes by chance.
type log struct {
	frames   []string
	kinds    []int
	payloads []string
}

func (d *dice) log(kinds int) log {
	l := log{}
	for range 1 + d.below(6) {
		kind := frameKinds()[d.below(kinds)]
		payload := d.text(d.below(200))
		if d.below(4) == 0 {
			// Payloads that look like frames themselves.
			payload = d.text(d.below(64)) + batch("inner") + batch("inner")
		}
		l.frames = append(l.frames, impl.Frame(kind, payload))
		l.kinds = append(l.kinds, kind)
		l.payloads = append(l.payloads, payload)
	}
	return l
}

func (l log) text() string {
	return strings.Join(l.frames, "")
}

// of gives the payloads of one kind, without the frame of a number.
func (l log) of(kind int, without int) []string {
	found := []string{}
	for i, payload := range l.payloads {
		if i != without && l.kinds[i] == kind {
			found = append(found, payload)
		}
	}
	return found
}

// beginning gives the payloads of one kind that stand at the beginning and are
// whole within so many bytes, and the pages that they take.
func (l log) beginning(kind int, size int) ([]string, int) {
	found, pages := []string{}, 0
	for i, frame := range l.frames {
		if l.kinds[i] != kind || pages*64+len(frame) > size {
			break
		}
		found = append(found, l.payloads[i])
		pages += len(frame) / 64
	}
	return found, pages
}

// whole is beginning for Salvage: the kinds may be mixed.
func (l log) whole(kind int, size int) []string {
	found, end := []string{}, 0
	for i, frame := range l.frames {
		end += len(frame)
		if end <= size && l.kinds[i] == kind {
			found = append(found, l.payloads[i])
		}
	}
	return found
}

func TestLogsCutAnywhere(t *testing.T) {
	d := &dice{state: 9}
	for n := range 60 {
		l := d.log(1 + n%3)
		s := l.text()
		for size := range len(s) + 1 {
			for _, kind := range frameKinds()[:3] {
				want, pages := l.beginning(kind, size)
				expectLog(t, "cut at "+strconv.Itoa(size), s[:size], kind, want, pages)
				expectSalvaged(t, "cut at "+strconv.Itoa(size), s[:size], kind, l.whole(kind, size))
			}
		}
	}
}

func TestSalvageOfFramesOfWhichOneIsHurt(t *testing.T) {
	d := &dice{state: 10}
	for n := range 300 {
		l := d.log(1 + n%3)
		at := 0
		for i, frame := range l.frames {
			for _, first := range []byte{0, '?', 'c'} {
				hurt := withByte(l.text(), at, first)
				for _, kind := range frameKinds()[:3] {
					expectSalvaged(t, "frame "+strconv.Itoa(i)+" begins otherwise", hurt, kind, l.of(kind, i))
					want, pages := l.beginning(kind, at)
					expectLog(t, "frame "+strconv.Itoa(i)+" begins otherwise", hurt, kind, want, pages)
				}
			}
			at += len(frame)
		}
	}
}

// A frame is passed over as a whole: what its payload holds is not looked at,
// and where the frame is hurt, no page of it looks like a beginning.
func TestFramesWithinPayloads(t *testing.T) {
	inner := batch("inner") + batch("inner")
	for shift := range 130 {
		payload := strings.Repeat("-", shift) + inner + inner
		s := impl.Frame(impl.FrameBlock, payload)
		expectSalvaged(t, "a frame of frames", s, impl.FrameBatch, nil)
		expectSalvaged(t, "a frame of frames", s, impl.FrameBlock, []string{payload})
		hurt := withByte(s, len(s)-1, 1)
		expectSalvaged(t, "a hurt frame of frames", hurt, impl.FrameBatch, nil)
		expectSalvaged(t, "a frame without its first page", s[64:]+batch("x"), impl.FrameBatch, []string{"x"})
	}
	// Cut loose, they are frames of their own.
	expectSalvaged(t, "what was within", inner, impl.FrameBatch, []string{"inner", "inner"})
}

// A log may claim sizes that reach to its end at every page; it is gone
// through all the same.
func TestSalvageOfALongTextOfFalseFrames(t *testing.T) {
	near := "W" + word(60000) + strings.Repeat("?", 59)
	far := "W" + word(impl.MaxPayload) + strings.Repeat("?", 59)
	more := "c" + strings.Repeat("?", 63)
	for _, s := range []string{strings.Repeat(near, 16000), strings.Repeat(far, 16000), far + strings.Repeat(more, 16000), strings.Repeat(far+strings.Repeat(more, 40), 400), strings.Repeat(near+strings.Repeat(more, 1000), 16)} {
		expectSalvaged(t, "false frames", s+batch("x"), impl.FrameBatch, []string{"x"})
		expectLog(t, "false frames", batch("x")+s, impl.FrameBatch, []string{"x"}, 1)
	}
}

func TestLogsAnswerNewLists(t *testing.T) {
	s := batch("a") + batch("b")
	first, _ := impl.ReadLog(s, impl.FrameBatch)
	saved := impl.Salvage(s, impl.FrameBatch)
	first[0], saved[1] = "changed", "changed"
	if !slices.Equal(first, []string{"changed", "b"}) || !slices.Equal(saved, []string{"a", "changed"}) {
		t.Error("two answers share memory")
	}
	expectLog(t, "again", s, impl.FrameBatch, []string{"a", "b"}, 2)
	expectSalvaged(t, "again", s, impl.FrameBatch, []string{"a", "b"})
}
