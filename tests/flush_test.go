package tests

import (
	"slices"
	"strconv"
	"testing"

	"loop.example/s01733/impl"
)

// filled is a process with three keys in mem and a table.
func filled() []impl.Op {
	return ops(opOpen, opPut("a", "1"), opPut("b", "2"), opFlush, opPut("c", "3"), opSync, opPut("a", "4"), opDel("b"))
}

func TestFlushSteps(t *testing.T) {
	o := expectSteps(t, "a flush", emptyDir(), filled(), opFlush, impl.RunOk,
		"sync 4.log", "create 5.sst", "append 5.sst 192", "sync 5.sst", "create 6.log", "append MANIFEST-2 64", "sync MANIFEST-2", "remove 4.log")
	if got := fileOf(o.Fs, "5.sst").Data; got != sst(put("a", 4, "4"), del("b", 5), put("c", 3, "3")) {
		t.Errorf("the table is %q", got)
	}
	want := manifestText(impl.Edit{Log: 1, Next: 3}, impl.Edit{Adds: []impl.TableRef{table(3, 0, "a", "b")}, Log: 4, Next: 5, Last: 2},
		impl.Edit{Adds: []impl.TableRef{table(5, 0, "a", "c")}, Log: 6, Next: 7, Last: 5})
	if got := fileOf(o.Fs, "MANIFEST-2").Data; got != want {
		t.Errorf("the manifest is %q", got)
	}
	if names(o.Fs) != "3.sst 5.sst 6.log CURRENT MANIFEST-2" || o.Mode != impl.ModeOpen {
		t.Errorf("a flush left %s, mode %d", names(o.Fs), o.Mode)
	}
	expectSteps(t, "a flush of a log that is synced", emptyDir(), then(filled(), opSync), opFlush, impl.RunOk,
		"-", "create 5.sst", "append 5.sst 192", "sync 5.sst", "create 6.log", "append MANIFEST-2 64", "sync MANIFEST-2", "remove 4.log")
	o = expectSession(t, "what comes behind", withFuel(o.Fs, -1), said{opOpen, "0"}, said{opAll, "0 a=4 c=3"})
	expectDump(t, "what comes behind", o.Fs, "log 7 next 9 last 5\ntable 3 level 0 size 192\ntable 5 level 0 size 192\n")
}

func TestFlushOfNothing(t *testing.T) {
	expectSteps(t, "mem is empty at first", emptyDir(), ops(opOpen), opFlush, impl.RunOk)
	expectSteps(t, "mem is empty after a flush", emptyDir(), ops(opOpen, opPut("a", "1"), opFlush), opFlush, impl.RunOk)
	expectSteps(t, "mem is empty after an opening", emptyDir(), ops(opOpen, opPut("a", "1"), opClose, opOpen), opFlush, impl.RunOk)
	o := expectSession(t, "a deletion is something", emptyDir(), said{opOpen, "0"}, said{opDel("a"), "0"}, said{opFlush, "0"}, said{opAll, "0"}, said{opGet("a"), "5"}, said{opDump, "0 log 4 next 5 last 1;table 3 level 0 size 192;"})
	if got := fileOf(o.Fs, "3.sst").Data; got != sst(del("a", 1)) {
		t.Errorf("the table is %q", got)
	}
}

// The process goes on with the new log, and its Seqs go on.
func TestFlushGoesOnWithTheNewLog(t *testing.T) {
	o := expectSession(t, "on", emptyDir(), said{opOpen, "0"}, said{opPut("a", "1"), "0"}, said{opFlush, "0"}, said{opPut("b", "2"), "0"}, said{opAll, "0 a=1 b=2"}, said{opSync, "0"}, said{opPut("a", "3"), "0"},
		said{opList, "0 3.sst 192 192;4.log 128 64;CURRENT 10 10;MANIFEST-2 128 128;"}, said{opFlush, "0"}, said{opAll, "0 a=3 b=2"})
	if got := fileOf(o.Fs, "5.sst").Data; got != sst(put("a", 3, "3"), put("b", 2, "2")) {
		t.Errorf("the table is %q", got)
	}
}

func TestFlushGivesUpForBytes(t *testing.T) {
	before := exec(t, emptyDir(), filled()...).Fs
	had := totalOf(before)
	full := func(quota int, steps ...string) {
		t.Helper()
		what := "quota " + strconv.Itoa(quota-had)
		o := expectSteps(t, what, dir(quota, -1), filled(), opFlush, impl.RunFull, append([]string{"sync 4.log", "create 5.sst"}, steps...)...)
		want, _ := impl.FsSync(before, "4.log")
		if !slices.Equal(o.Fs.Files, want.Files) || o.Mode != impl.ModeOpen {
			t.Errorf("%s: giving up left %s, mode %d", what, show(o.Fs), o.Mode)
		}
		o = exec(t, dir(quota, -1), then(filled(), opFlush, opAll, opGet("c"), opFlush, opPut("z", long(1000)), opAll, opClose)...)
		answers := o.Answers[len(filled()):]
		for i, want := range []string{"3", "0 a=4 c=3", "0 3", "3", "3", "0 a=4 c=3", "0"} {
			if tell(answers[i]) != want {
				t.Errorf("%s: behind it answer %d is %s, want %s", what, i, tell(answers[i]), want)
			}
		}
		expectOpens(t, what, withQuota(o.Fs, impl.MaxTotal), "a=4 c=3")
	}
	full(had, "-", "remove 5.sst")
	full(had+191, "-", "remove 5.sst")
	full(had+192, "append 5.sst 192", "sync 5.sst", "create 6.log", "-", "remove 5.sst", "remove 6.log")
	full(had+255, "append 5.sst 192", "sync 5.sst", "create 6.log", "-", "remove 5.sst", "remove 6.log")
	o := exec(t, dir(had+256, -1), then(filled(), opFlush)...)
	expectCode(t, "just room enough", o, impl.RunOk, impl.ModeOpen)
}

func TestFlushGivesUpForFiles(t *testing.T) {
	list := ops(opOpen, opPut("a", "1"))
	expectSteps(t, "no file more", crowded(emptyDir(), 197), list, opFlush, impl.RunFull, "sync 1.log", "-")
	expectSteps(t, "one file more", crowded(emptyDir(), 196), list, opFlush, impl.RunFull, "sync 1.log", "create 3.sst", "append 3.sst 192", "sync 3.sst", "-", "remove 3.sst")
	o := exec(t, crowded(emptyDir(), 195), then(list, opFlush)...)
	expectCode(t, "two files more", o, impl.RunOk, impl.ModeOpen)
	// A compaction of several tables makes room for the next flush.
	says := []said{{opOpen, "0"}}
	for range 2 {
		says = append(says, said{opPut("a", "1"), "0"}, said{opFlush, "0"})
	}
	says = append(says, said{opPut("b", "2"), "0"}, said{opFlush, "3"}, said{opFlush, "3"}, said{opCompact(0), "0"}, said{opFlush, "0"}, said{opAll, "0 a=1 b=2"})
	expectSession(t, "room is made", crowded(emptyDir(), 194), says...)
}

// Where the process dies while it gives up, what was not yet taken out stays.
func TestFlushDiesGivingUp(t *testing.T) {
	before := exec(t, emptyDir(), filled()...).Fs
	quota := totalOf(before) + 192
	for n, want := range map[int][]string{5: {"5.sst", "6.log"}, 6: {"5.sst", "6.log"}, 7: {"6.log"}} {
		o := exec(t, dir(quota, -1), then(filled(), opFuel(n), opFlush)...)
		expectCode(t, "dead", o, impl.RunDead, impl.ModeDead)
		if got := gone(o.Fs, before); !slices.Equal(got, want) {
			t.Errorf("with %d steps %v is there, want %v", n, got, want)
		}
		expectOpens(t, "dead", withQuota(impl.FsCrash(o.Fs, nil), impl.MaxTotal), "a=4 c=3")
	}
	o := exec(t, dir(quota, -1), then(filled(), opFuel(8), opFlush)...)
	expectCode(t, "given up", o, impl.RunFull, impl.ModeOpen)
}

func TestFlushNumbersRunOut(t *testing.T) {
	for _, c := range []struct {
		next int
		code string
	}{{impl.MaxNum - 3, "0"}, {impl.MaxNum - 2, "3"}} {
		// The opening takes two numbers.
		fs := storeDir(1, []impl.Edit{{Log: 2, Next: c.next - 2}})
		o := expectSession(t, "next "+strconv.Itoa(c.next), fs, said{opOpen, "0"}, said{opFlush, "0"}, said{opPut("a", "1"), "0"}, said{opFlush, c.code}, said{opAll, "0 a=1"}, said{opPut("b", "2"), "0"}, said{opFlush, "3"}, said{opAll, "0 a=1 b=2"}, said{opFuel(0), "0"}, said{opFlush, "3"}, said{opFuel(-1), "0"}, said{opClose, "0"})
		expectPeek(t, "next "+strconv.Itoa(c.next), o.Fs, impl.RunOk, "a=1 b=2")
	}
	fs := storeDir(1, []impl.Edit{{Log: 2, Next: impl.MaxNum - 4}})
	o := expectSteps(t, "no number left", fs, ops(opOpen, opPut("a", "1")), opFlush, impl.RunFull)
	if f := fileOf(o.Fs, "999999995.log"); f.Synced != 0 {
		t.Errorf("the log is synced")
	}
}
