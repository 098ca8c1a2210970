package tests

import (
	"slices"
	"strings"
	"testing"

	"loop.example/s01733/impl"
)

func TestWritesAreOneStep(t *testing.T) {
	before := ops(opOpen)
	for what, op := range map[string]impl.Op{
		"put": opPut("a", "1"), "del": opDel("a"), "batch": opBatch(impl.Entry{Key: "a", Kind: 1, Val: "1"}, impl.Entry{Key: "b"}),
	} {
		expectSteps(t, what, emptyDir(), before, op, impl.RunOk, "append 1.log 64")
	}
	expectSteps(t, "a long put", emptyDir(), before, opPut("a", long(4000)), impl.RunOk, "append 1.log 4096")
	written := then(before, opPut("a", "1"))
	expectSteps(t, "sync", emptyDir(), written, opSync, impl.RunOk, "sync 1.log")
	expectSteps(t, "sync of what is synced", emptyDir(), then(written, opSync), opSync, impl.RunOk, "-")
	o := expectSteps(t, "close", emptyDir(), written, opClose, impl.RunOk, "sync 1.log")
	expectCode(t, "close", o, impl.RunOk, impl.ModeClosed)
	o = expectSteps(t, "close of what is synced", emptyDir(), before, opClose, impl.RunOk, "-")
	expectCode(t, "close of what is synced", o, impl.RunOk, impl.ModeClosed)
}

func TestWhatTheLogHolds(t *testing.T) {
	list := []impl.Entry{{Key: "b", Kind: 1, Val: "x"}, {Key: "a", Kind: 1}, {Key: "b"}, {Key: "b", Kind: 1, Val: "y"}}
	o := expectSession(t, "a log", emptyDir(), said{opOpen, "0"}, said{opPut("b", "0"), "0"}, said{opBatch(list...), "0"}, said{opDel("c"), "0"}, said{opPut("a", ""), "0"}, said{opAll, "0 a= b=y"})
	want := logText(entries(put("b", 1, "0")), entries(put("b", 2, "x"), put("a", 3, ""), del("b", 4), put("b", 5, "y")), entries(del("c", 6)), entries(put("a", 7, "")))
	if got := fileOf(o.Fs, "1.log"); got.Data != want || got.Synced != 0 {
		t.Errorf("the log is %q, %d synced", got.Data, got.Synced)
	}
}

func TestWritesThatFindNoRoom(t *testing.T) {
	fs := dir(74+128, -1)
	o := expectSession(t, "full", fs, said{opOpen, "0"}, said{opPut("a", "1"), "0"}, said{opPut("b", long(60)), "3"}, said{opBatch(impl.Entry{Key: "a"}, impl.Entry{Key: "c", Kind: 1, Val: long(60)}), "3"},
		said{opAll, "0 a=1"}, said{opGet("b"), "5"}, said{opDel("a"), "0"}, said{opAll, "0"}, said{opDel("a"), "3"}, said{opSync, "0"}, said{opClose, "0"}, said{opList, "0 1.log 128 128;CURRENT 10 10;MANIFEST-2 64 64;"})
	// The Seqs of what found no room were not used.
	if got := fileOf(o.Fs, "1.log").Data; got != logText(entries(put("a", 1, "1")), entries(del("a", 2))) {
		t.Errorf("the log is %q", got)
	}
	expectSession(t, "full at MaxTotal", withFile(emptyDir(), "x", long(impl.MaxTotal-74-63)), said{opOpen, "0"}, said{opPut("a", "1"), "3"}, said{opAll, "0"})
	expectSession(t, "room at MaxTotal", withFile(emptyDir(), "x", long(impl.MaxTotal-74-64)), said{opOpen, "0"}, said{opPut("a", "1"), "0"}, said{opAll, "0 a=1"})
}

// payloadSize is the size of entriesText, with Seqs from seq on.
func payloadSize(es []impl.Entry, seq int) int {
	size := len(varint(len(es)))
	for i, e := range es {
		size += len(varint(len(e.Key))) + len(e.Key) + len(varint(seq+i)) + 1 + len(varint(len(e.Val))) + len(e.Val)
	}
	return size
}

// payloadOf is a batch whose payload has that size when its first Seq is seq.
// The last two values have room to grow without a byte more for their sizes.
func payloadOf(size int, seq int) []impl.Entry {
	es := []impl.Entry{}
	for payloadSize(es, seq) < size-5000 {
		es = append(es, impl.Entry{Key: "k", Kind: 1, Val: long(4000)})
	}
	es = append(es, impl.Entry{Key: "l", Kind: 1, Val: long(900)}, impl.Entry{Key: "m", Kind: 1, Val: long(900)})
	for i := len(es) - 1; payloadSize(es, seq) < size; i-- {
		es[i].Val += long(min(4000-len(es[i].Val), size-payloadSize(es, seq)))
	}
	return es
}

func numberedFrom(es []impl.Entry, seq int) []impl.Entry {
	es = slices.Clone(es)
	for i := range es {
		es[i].Seq = seq + i
	}
	return es
}

func TestPayloadsAtTheirGreatest(t *testing.T) {
	most := payloadOf(impl.MaxPayload, 1)
	more := payloadOf(impl.MaxPayload+1, 1)
	less := payloadOf(impl.MaxPayload-1, 1)
	for name, es := range map[string][]impl.Entry{"most": most, "more": more, "less": less} {
		if len(es) > impl.MaxBatch || payloadSize(es, 1) != len(impl.EncodeEntries(numberedFrom(es, 1))) || slices.ContainsFunc(es, func(e impl.Entry) bool { return len(e.Val) > impl.MaxVal }) {
			t.Fatalf("%s: the test's batch is not as described", name)
		}
	}
	// A frame of such a payload is more than any directory holds.
	expectSession(t, "open", emptyDir(), said{opOpen, "0"}, said{opBatch(less...), "3"}, said{opBatch(most...), "3"}, said{opBatch(more...), "2"}, said{opAll, "0"}, said{opPut("a", "1"), "0"}, said{opAll, "0 a=1"})
	expectSession(t, "with no fuel", emptyDir(), said{opOpen, "0"}, said{opFuel(0), "0"}, said{opBatch(more...), "2"}, said{opBatch(most...), "8"})
	// A greater Seq takes a byte more.
	fs := storeDir(1, []impl.Edit{{Log: 2, Next: 3, Last: 1 << 20}})
	expectSession(t, "greater Seqs", fs, said{opOpen, "0"}, said{opBatch(most...), "2"}, said{opBatch(payloadOf(impl.MaxPayload, 1<<20+1)...), "3"}, said{opBatch(payloadOf(impl.MaxPayload+1, 1<<20+1)...), "2"})
	// The greatest that fits: its frame fills the directory.
	room := (impl.MaxTotal - 74) / 64
	o := expectSession(t, "just room enough", emptyDir(), said{opOpen, "0"}, said{opBatch(payloadOf(room*63-8, 1)...), "0"}, said{opPut("a", ""), "3"})
	if totalOf(o.Fs) != 74+room*64 {
		t.Errorf("%d bytes", totalOf(o.Fs))
	}
	expectSession(t, "a page too many", emptyDir(), said{opOpen, "0"}, said{opBatch(payloadOf(room*63-7, 1)...), "3"})
}

func TestSeqsAtTheirGreatest(t *testing.T) {
	at := func(last int) impl.FS { return storeDir(1, []impl.Edit{{Log: 2, Next: 3, Last: last}}) }
	two := opBatch(impl.Entry{Key: "a", Kind: 1, Val: "x"}, impl.Entry{Key: "b", Kind: 1, Val: "y"})
	o := expectSession(t, "two are left", at(impl.MaxSeq-2), said{opOpen, "0"}, said{opBatch(two.Batch[0], two.Batch[0], two.Batch[1]), "2"}, said{two, "0"},
		said{opPut("c", ""), "2"}, said{opDel("c"), "2"}, said{two, "2"}, said{opAll, "0 a=x b=y"}, said{opFlush, "0"}, said{opAll, "0 a=x b=y"},
		said{opPut("c", ""), "2"}, said{opFuel(0), "0"}, said{opPut("c", ""), "2"}, said{opFuel(-1), "0"}, said{opDump, "0 log 6 next 7 last 72057594037927935;table 5 level 0 size 192;"}, said{opClose, "0"})
	expectOpens(t, "two are left, closed", o.Fs, "a=x b=y")
	o = expectSession(t, "one is left", at(impl.MaxSeq-1), said{opOpen, "0"}, said{two, "2"}, said{opDel("a"), "0"}, said{opPut("a", ""), "2"}, said{opClose, "0"}, said{opOpen, "0"}, said{opPut("a", ""), "2"}, said{opAll, "0"})
	if got := fileOf(o.Fs, "5.sst").Data; got != sst(del("a", impl.MaxSeq)) {
		t.Errorf("the table is %q", got)
	}
	expectSession(t, "none is left", at(impl.MaxSeq), said{opOpen, "0"}, said{opDel("a"), "2"}, said{opBatch(impl.Entry{Key: "a"}), "2"}, said{opFlush, "0"}, said{opSync, "0"}, said{opClose, "0"})
	// In logs that are read.
	expectOpens(t, "a log", withFile(at(impl.MaxSeq-2), "2.log", logText(entries(put("a", impl.MaxSeq-1, "1")), entries(put("b", impl.MaxSeq, "2")))), "a=1 b=2")
	expectDamaged(t, "a Seq above", withFile(at(impl.MaxSeq), "2.log", batch(entriesText(entries(put("a", impl.MaxSeq+1, "1"))))))
}

func TestCrashKeepsABeginningOfTheLog(t *testing.T) {
	list := ops(opOpen, opPut("a", "1"), opSync, opPut("b", "2"), opBatch(impl.Entry{Key: "c", Kind: 1, Val: long(80)}, impl.Entry{Key: "a"}))
	after := "c=" + long(80)
	for _, c := range []struct {
		keep  []int
		pairs string
	}{
		{nil, "a=1"}, {[]int{}, "a=1"}, {[]int{-1}, "a=1"}, {[]int{minInt}, "a=1"}, {[]int{0}, "a=1"}, {[]int{1}, "a=1"}, {[]int{63}, "a=1"},
		{[]int{64}, "a=1 b=2"}, {[]int{65}, "a=1 b=2"}, {[]int{127}, "a=1 b=2"}, {[]int{191}, "a=1 b=2"},
		{[]int{192}, "b=2 " + after}, {[]int{193}, "b=2 " + after}, {[]int{maxInt}, "b=2 " + after}, {[]int{-1, 500, 500}, "a=1"}, {[]int{64, 0, 0, 0, 0}, "a=1 b=2"},
	} {
		o := exec(t, emptyDir(), then(list, opCrash(c.keep...))...)
		expectCode(t, "a crash", o, impl.RunOk, impl.ModeClosed)
		expectOpens(t, "a crash", o.Fs, c.pairs)
		if want := impl.FsCrash(impl.Exec(emptyDir(), list).Fs, c.keep); !sameFS(o.Fs, want) {
			t.Errorf("a crash left %s, want %s", show(o.Fs), show(want))
		}
	}
	o := exec(t, emptyDir(), opCrash(), opOpen, opClose, opCrash(1, 2), opFuel(0), opOpen, opCrash(), opCrash())
	expectCode(t, "a crash in every mode", o, impl.RunOk, impl.ModeClosed)
}

func TestClosedAndOpenedAgain(t *testing.T) {
	says := []said{{opOpen, "0"}}
	want := ""
	for _, key := range []string{"a", "b", "c", "d"} {
		want = strings.TrimSpace(want + " " + key + "=" + key)
		says = append(says, said{opPut(key, key), "0"}, said{opClose, "0"}, said{opGet("a"), "1"}, said{opClose, "1"}, said{opCheck, "0 0"}, said{opOpen, "0"}, said{opAll, "0 " + want})
	}
	o := expectSession(t, "again and again", emptyDir(), says...)
	expectDump(t, "again and again", o.Fs, "log 13 next 15 last 4\ntable 3 level 0 size 192\ntable 6 level 0 size 192\ntable 9 level 0 size 192\ntable 12 level 0 size 192\n")
}
