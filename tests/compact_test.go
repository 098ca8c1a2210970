package tests

import (
	"slices"
	"strconv"
	"testing"

	"loop.example/s01733/impl"
)

// board is a table of a shelf.
type board struct {
	num   int
	level int
	es    []impl.Entry
}

// shelf is a store with these tables, whose Last is 40. Opened, it has the log
// 60 and the manifest 61, and 62 is the next number.
func shelf(boards ...board) impl.FS {
	e := impl.Edit{Log: 50, Next: 60, Last: 40}
	texts := []string{}
	for _, b := range boards {
		e.Adds = append(e.Adds, table(b.num, b.level, b.es[0].Key, b.es[len(b.es)-1].Key))
		texts = append(texts, strconv.Itoa(b.num)+".sst", sst(b.es...))
	}
	return storeDir(51, []impl.Edit{e}, texts...)
}

func puts(key string, seq int) []impl.Entry {
	return entries(put(key, seq, key+strconv.Itoa(seq)))
}

// firstPart is the steps of a compaction up to where deletions are dropped.
func firstPart(dels ...int) []string {
	steps := []string{"create 62.sst", "append 62.sst 192", "sync 62.sst", "append MANIFEST-61 64", "sync MANIFEST-61"}
	for _, num := range dels {
		steps = append(steps, "remove "+strconv.Itoa(num)+".sst")
	}
	return steps
}

func secondPart(num string) []string {
	return []string{"create " + num, "append " + num + " 192", "sync " + num, "append MANIFEST-61 64", "sync MANIFEST-61", "remove 62.sst"}
}

func noneLeft() []string {
	return []string{"append MANIFEST-61 64", "sync MANIFEST-61", "remove 62.sst"}
}

func expectTableFile(t *testing.T, what string, fs impl.FS, name string, es ...impl.Entry) {
	t.Helper()
	if f := fileOf(fs, name); f.Data != sst(es...) || f.Synced != len(f.Data) {
		got, ok := impl.ReadTable(f.Data)
		t.Errorf("%s: %s holds %v (%v), want %v", what, name, got, ok, es)
	}
}

func expectManifestEnds(t *testing.T, what string, fs impl.FS, adds []impl.TableRef, edits ...impl.Edit) {
	t.Helper()
	first := impl.Edit{Adds: adds, Log: 60, Next: 62, Last: 40}
	if fileOf(fs, "MANIFEST-61").Data != manifestText(append([]impl.Edit{first}, edits...)...) {
		t.Errorf("%s: the manifest is %q", what, fileOf(fs, "MANIFEST-61").Data)
	}
}

func TestCompactAtEachLevel(t *testing.T) {
	for level := range 3 {
		what := "level " + strconv.Itoa(level)
		upper, lower := board{9, level, puts("b", 7)}, board{4, level + 1, entries(put("a", 1, "a1"), put("b", 2, "b2"), put("c", 3, "c3"))}
		o := expectSteps(t, what, shelf(upper, lower), ops(opOpen), opCompact(level), impl.RunOk, firstPart(9, 4)...)
		expectTableFile(t, what, o.Fs, "62.sst", put("a", 1, "a1"), put("b", 7, "b7"), put("c", 3, "c3"))
		expectManifestEnds(t, what, o.Fs, []impl.TableRef{table(9, level, "b", "b"), table(4, level+1, "a", "c")},
			impl.Edit{Adds: []impl.TableRef{table(62, level+1, "a", "c")}, Dels: []int{9, 4}, Log: 60, Next: 63, Last: 40})
		if names(o.Fs) != "60.log 62.sst CURRENT MANIFEST-61" {
			t.Errorf("%s: left %s", what, names(o.Fs))
		}
		o = expectSteps(t, what+" alone", shelf(upper), ops(opOpen), opCompact(level), impl.RunOk, firstPart(9)...)
		expectTableFile(t, what+" alone", o.Fs, "62.sst", put("b", 7, "b7"))
		expectSteps(t, what+" has no table", shelf(lower), ops(opOpen), opCompact(level), impl.RunOk)
		expectSteps(t, what+" of no tables", shelf(), ops(opOpen), opCompact(level), impl.RunOk)
		expectSteps(t, what+" of nothing", emptyDir(), ops(opOpen), opCompact(level), impl.RunOk)
	}
}

// Only the tables of two levels are touched, and mem is not.
func TestCompactLeavesOtherLevels(t *testing.T) {
	fs := shelf(board{9, 0, puts("a", 30)}, board{8, 1, puts("a", 20)}, board{7, 2, puts("a", 10)}, board{6, 3, puts("a", 5)})
	left := []string{"6.sst 7.sst", "6.sst 9.sst", "8.sst 9.sst"}
	for level := range 3 {
		what := "level " + strconv.Itoa(level)
		o := expectSession(t, what, fs, said{opOpen, "0"}, said{opPut("b", "mem"), "0"}, said{opCompact(level), "0"}, said{opAll, "0 a=a30 b=mem"}, said{opFlush, "0"}, said{opAll, "0 a=a30 b=mem"})
		for _, num := range []string{"6.sst", "7.sst", "8.sst", "9.sst"} {
			kept := fileOf(o.Fs, num).Name != ""
			if kept != slices.Contains([]string{left[level][:5], left[level][6:]}, num) {
				t.Errorf("%s: %s is there: %v", what, num, kept)
			}
		}
		expectTableFile(t, what, o.Fs, "62.sst", puts("a", 30-10*level)...)
	}
}

// Several tables of each level, removed in the version's order, which is not
// that of their names.
func TestCompactOrder(t *testing.T) {
	fs := shelf(board{20, 0, puts("c", 9)}, board{3, 0, puts("a", 8)}, board{10, 1, puts("a", 1)}, board{9, 1, puts("c", 2)}, board{100 - 50 - 1, 1, puts("b", 3)})
	o := expectSteps(t, "several", fs, ops(opOpen), opCompact(0), impl.RunOk, firstPart(3, 20, 9, 10, 49)...)
	expectTableFile(t, "several", o.Fs, "62.sst", put("a", 8, "a8"), put("b", 3, "b3"), put("c", 9, "c9"))
	refs := []impl.TableRef{table(3, 0, "a", "a"), table(20, 0, "c", "c"), table(9, 1, "c", "c"), table(10, 1, "a", "a"), table(49, 1, "b", "b")}
	expectManifestEnds(t, "several", o.Fs, refs, impl.Edit{Adds: []impl.TableRef{table(62, 1, "a", "c")}, Dels: []int{3, 20, 9, 10, 49}, Log: 60, Next: 63, Last: 40})
}

// Of two entries with one Key and Seq the one of the table that comes first in
// the version counts, in a compaction as in every look.
func TestSameKeyAndSeqInTwoTables(t *testing.T) {
	fs := shelf(board{7, 0, entries(put("a", 5, "seven"))}, board{5, 0, entries(put("a", 5, "five"))}, board{2, 1, entries(put("a", 5, "two"))})
	expectPeek(t, "equal", fs, impl.RunOk, "a=five")
	o := expectSession(t, "equal", fs, said{opOpen, "0"}, said{opGet("a"), "0 five"}, said{opAll, "0 a=five"}, said{opCompact(0), "0"}, said{opGet("a"), "0 five"})
	expectTableFile(t, "equal", o.Fs, "62.sst", put("a", 5, "five"))
	o = expectSession(t, "a greater Seq below", shelf(board{7, 0, puts("a", 5)}, board{2, 1, puts("a", 6)}), said{opOpen, "0"}, said{opGet("a"), "0 a6"}, said{opCompact(0), "0"}, said{opGet("a"), "0 a6"})
	expectTableFile(t, "a greater Seq below", o.Fs, "62.sst", put("a", 6, "a6"))
	o = expectSession(t, "a key twice in a table", shelf(board{7, 0, entries(put("a", 5, "x"), put("a", 3, "y"), del("b", 9), put("b", 8, "z"))}), said{opOpen, "0"}, said{opAll, "0 a=x"}, said{opGet("b"), "5"}, said{opCompact(0), "0"}, said{opAll, "0 a=x"})
	expectTableFile(t, "a key twice in a table", o.Fs, "63.sst", put("a", 5, "x"))
}

func TestCompactKeepsDeletions(t *testing.T) {
	for level := range 2 {
		for deeper := level + 2; deeper <= 3; deeper++ {
			what := "levels " + strconv.Itoa(level) + " and " + strconv.Itoa(deeper)
			fs := shelf(board{9, level, entries(del("a", 9), put("b", 8, "b8"))}, board{5, deeper, puts("z", 1)})
			o := expectSteps(t, what, fs, ops(opOpen), opCompact(level), impl.RunOk, firstPart(9)...)
			expectTableFile(t, what, o.Fs, "62.sst", del("a", 9), put("b", 8, "b8"))
			fs = shelf(board{9, level, entries(del("a", 9))}, board{5, deeper, puts("a", 1)})
			o = expectSteps(t, what+", deletions alone", fs, ops(opOpen), opCompact(level), impl.RunOk, firstPart(9)...)
			expectTableFile(t, what+", deletions alone", o.Fs, "62.sst", del("a", 9))
			expectOpens(t, what+", deletions alone", withFuel(o.Fs, -1), "")
		}
	}
}

func TestCompactDropsDeletions(t *testing.T) {
	for level := range 3 {
		what := "level " + strconv.Itoa(level)
		upper := board{9, level, entries(del("a", 9), put("b", 8, "b8"), del("c", 7))}
		o := expectSteps(t, what, shelf(upper), ops(opOpen), opCompact(level), impl.RunOk, append(firstPart(9), secondPart("63.sst")...)...)
		expectTableFile(t, what, o.Fs, "63.sst", put("b", 8, "b8"))
		expectManifestEnds(t, what, o.Fs, []impl.TableRef{table(9, level, "a", "c")},
			impl.Edit{Adds: []impl.TableRef{table(62, level+1, "a", "c")}, Dels: []int{9}, Log: 60, Next: 63, Last: 40},
			impl.Edit{Adds: []impl.TableRef{table(63, level+1, "b", "b")}, Dels: []int{62}, Log: 60, Next: 64, Last: 40})
		lower := board{4, level + 1, entries(put("a", 1, "a1"), put("b", 2, "b2"), put("d", 3, "d3"))}
		o = expectSteps(t, what+" and below", shelf(upper, lower), ops(opOpen), opCompact(level), impl.RunOk, append(firstPart(9, 4), secondPart("63.sst")...)...)
		expectTableFile(t, what+" and below", o.Fs, "63.sst", put("b", 8, "b8"), put("d", 3, "d3"))
		lower.es = entries(put("d", 3, "d3"), del("e", 4))
		o = expectSteps(t, what+" with a deletion below", shelf(board{9, level, puts("b", 8)}, lower), ops(opOpen), opCompact(level), impl.RunOk, append(firstPart(9, 4), secondPart("63.sst")...)...)
		expectTableFile(t, what+" with a deletion below", o.Fs, "63.sst", put("b", 8, "b8"), put("d", 3, "d3"))
	}
	// Levels above do not matter: what they hold is newer.
	fs := shelf(board{9, 0, puts("a", 20)}, board{8, 1, entries(del("a", 9), put("b", 8, "b8"))})
	o := expectSteps(t, "a level above", fs, ops(opOpen), opCompact(1), impl.RunOk, append(firstPart(8), secondPart("63.sst")...)...)
	expectOpens(t, "a level above", withFuel(o.Fs, -1), "a=a20 b=b8")
}

func TestCompactOfDeletionsAlone(t *testing.T) {
	for level := range 3 {
		what := "level " + strconv.Itoa(level)
		fs := shelf(board{9, level, entries(del("a", 9), del("b", 8))}, board{4, level + 1, puts("a", 1)})
		o := expectSteps(t, what, fs, ops(opOpen), opCompact(level), impl.RunOk, append(firstPart(9, 4), noneLeft()...)...)
		expectManifestEnds(t, what, o.Fs, []impl.TableRef{table(9, level, "a", "b"), table(4, level+1, "a", "a")},
			impl.Edit{Adds: []impl.TableRef{table(62, level+1, "a", "b")}, Dels: []int{9, 4}, Log: 60, Next: 63, Last: 40},
			impl.Edit{Dels: []int{62}, Log: 60, Next: 63, Last: 40})
		if names(o.Fs) != "60.log CURRENT MANIFEST-61" {
			t.Errorf("%s: left %s", what, names(o.Fs))
		}
		expectSession(t, what, fs, said{opOpen, "0"}, said{opCompact(level), "0"}, said{opAll, "0"}, said{opCompact(level), "0"}, said{opPut("a", "1"), "0"}, said{opFlush, "0"},
			said{opDump, "0 log 64 next 65 last 41;table 63 level 0 size 192;"}, said{opAll, "0 a=1"})
	}
}

// expectCompactFull looks at a compaction that finds no room, at what it takes
// out, and at what it leaves.
func expectCompactFull(t *testing.T, what string, fs impl.FS, quota int, holds string, left string, steps ...string) {
	t.Helper()
	fs = withQuota(fs, quota)
	o := expectSteps(t, what, fs, ops(opOpen), opCompact(0), impl.RunFull, steps...)
	if names(o.Fs) != left || o.Mode != impl.ModeOpen {
		t.Errorf("%s: giving up left %s, mode %d", what, names(o.Fs), o.Mode)
	}
	o = expectSession(t, what, fs, said{opOpen, "0"}, said{opCompact(0), "3"}, said{opAll, "0 " + holds}, said{opClose, "0"})
	expectOpens(t, what, withQuota(o.Fs, impl.MaxTotal), holds)
	for i, f := range o.Fs.Files {
		if f.Synced != len(f.Data) {
			t.Errorf("%s: file %d is not synced", what, i)
		}
	}
}

func TestCompactGivesUpInItsFirstPart(t *testing.T) {
	fs := shelf(board{9, 0, entries(del("a", 9), put("b", 8, "b8"))}, board{4, 1, puts("c", 1)})
	had := totalOf(exec(t, fs, opOpen).Fs)
	before := "4.sst 60.log 9.sst CURRENT MANIFEST-61"
	// The opening itself needs 75 bytes for a while.
	for _, more := range []int{75, 191} {
		expectCompactFull(t, "no room for the table", fs, had+more, "b=b8 c=c1", before, "create 62.sst", "-", "remove 62.sst")
	}
	for _, more := range []int{192, 255} {
		expectCompactFull(t, "no room for the edit", fs, had+more, "b=b8 c=c1", before, "create 62.sst", "append 62.sst 192", "sync 62.sst", "-", "remove 62.sst")
	}
	o := exec(t, withQuota(fs, had+256), opOpen, opCompact(0))
	expectCode(t, "just room enough", o, impl.RunOk, impl.ModeOpen)
}

func TestCompactGivesUpInItsSecondPart(t *testing.T) {
	fs := shelf(board{9, 0, entries(del("a", 9), put("b", 8, "b8"))})
	had := totalOf(exec(t, fs, opOpen).Fs)
	first := "60.log 62.sst CURRENT MANIFEST-61"
	for _, more := range []int{256, 319} {
		expectCompactFull(t, "no room for the second edit", fs, had+more, "b=b8", first, append(firstPart(9), "create 63.sst", "append 63.sst 192", "sync 63.sst", "-", "remove 63.sst")...)
	}
	o := exec(t, withQuota(fs, had+320), opOpen, opCompact(0))
	expectCode(t, "just room enough", o, impl.RunOk, impl.ModeOpen)
	// Without the deletions the index has the long key, twice: the second table
	// is the greater one.
	key := long(1000)
	fs = shelf(board{9, 0, entries(del("a", 9), put(key, 8, "v"), del("z", 7))})
	had = totalOf(exec(t, fs, opOpen).Fs)
	steps := []string{"create 62.sst", "append 62.sst 1216", "sync 62.sst", "append MANIFEST-61 64", "sync MANIFEST-61", "remove 9.sst"}
	for _, more := range []int{1280, 3263} {
		expectCompactFull(t, "no room for the second table", fs, had+more, key+"=v", first, append(slices.Clone(steps), "create 63.sst", "-", "remove 63.sst")...)
	}
	for _, more := range []int{3264, 3264 + 33*64 - 1} {
		expectCompactFull(t, "no room for the second, long edit", fs, had+more, key+"=v", first, append(slices.Clone(steps), "create 63.sst", "append 63.sst 3200", "sync 63.sst", "-", "remove 63.sst")...)
	}
	o = exec(t, withQuota(fs, had+3264+33*64), opOpen, opCompact(0))
	expectCode(t, "just room enough for what is long", o, impl.RunOk, impl.ModeOpen)
}

// After giving up the process goes on with what it has: a second compaction
// takes the table that the first one made.
func TestCompactAfterGivingUp(t *testing.T) {
	fs := shelf(board{9, 0, entries(del("a", 9), put("b", 8, "b8"))})
	had := totalOf(exec(t, fs, opOpen).Fs)
	o := expectSession(t, "on", withQuota(fs, had+256), said{opOpen, "0"}, said{opCompact(0), "3"}, said{opDump, "0 log 60 next 63 last 40;table 62 level 1 size 192;"}, said{opCompact(0), "0"}, said{opCompact(1), "3"}, said{opAll, "0 b=b8"})
	expectDump(t, "on", o.Fs, "log 60 next 63 last 40\ntable 62 level 1 size 192\n")
}

func TestCompactDies(t *testing.T) {
	fs := shelf(board{9, 0, entries(del("a", 9), put("b", 8, "b8"))}, board{4, 1, puts("a", 1)})
	steps, _ := stepsOf(t, fs, ops(opOpen), opCompact(0))
	for n := range steps {
		o := exec(t, fs, opOpen, opFuel(n), opCompact(0))
		expectCode(t, "dead", o, impl.RunDead, impl.ModeDead)
		for _, keep := range [][]int{nil, {0, 0, 0, 0, 0, 30}, {9999, 9999, 9999, 9999, 9999, 9999}} {
			expectOpens(t, "dead after "+strconv.Itoa(n), impl.FsCrash(o.Fs, keep), "b=b8")
		}
	}
	had := totalOf(exec(t, fs, opOpen).Fs)
	o := exec(t, withQuota(fs, had+192), opOpen, opFuel(4), opCompact(0))
	expectCode(t, "dead while giving up", o, impl.RunDead, impl.ModeDead)
	expectTableFile(t, "dead while giving up", o.Fs, "62.sst", del("a", 9), put("b", 8, "b8"))
}

func TestCompactNumbersRunOut(t *testing.T) {
	at := func(next int) impl.FS {
		// The opening takes two numbers.
		e := impl.Edit{Adds: []impl.TableRef{table(9, 0, "a", "b")}, Log: 50, Next: next - 2, Last: 40}
		return storeDir(51, []impl.Edit{e}, "9.sst", sst(del("a", 9), put("b", 8, "b8")))
	}
	o := expectSession(t, "MaxNum less 3", at(impl.MaxNum-3), said{opOpen, "0"}, said{opCompact(0), "0"}, said{opAll, "0 b=b8"}, said{opCompact(1), "3"}, said{opCompact(0), "0"}, said{opCompact(2), "0"}, said{opAll, "0 b=b8"})
	expectDump(t, "MaxNum less 3", o.Fs, "log 999999994 next 999999998 last 40\ntable 999999997 level 1 size 192\n")
	for _, fuel := range []int{-1, 0} {
		expectSession(t, "MaxNum less 2", at(impl.MaxNum-2), said{opOpen, "0"}, said{opFuel(fuel), "0"}, said{opCompact(0), "3"}, said{opCompact(1), "0"}, said{opAll, "0 b=b8"}, said{opDump, "0 log 999999995 next 999999997 last 40;table 9 level 0 size 192;"})
	}
	expectSteps(t, "MaxNum less 2", at(impl.MaxNum-2), ops(opOpen), opCompact(0), impl.RunFull)
}

func TestCompactOfManyEntries(t *testing.T) {
	upper, lower := []impl.Entry{}, []impl.Entry{}
	want := []impl.Entry{}
	for i := range 60 {
		key := "k" + strconv.Itoa(100+i)
		lower = append(lower, put(key, 1+i%20, "old"))
		switch i % 3 {
		case 0:
			upper = append(upper, put(key, 21+i%20, "new"))
			want = append(want, upper[len(upper)-1])
		case 1:
			upper = append(upper, del(key, 21+i%20))
		case 2:
			want = append(want, lower[i])
		}
	}
	o := exec(t, shelf(board{9, 2, upper}, board{4, 3, lower}), opOpen, opCompact(2))
	expectCode(t, "many", o, impl.RunOk, impl.ModeOpen)
	expectTableFile(t, "many", o.Fs, "63.sst", want...)
}
