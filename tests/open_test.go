package tests

import (
	"slices"
	"strconv"
	"strings"
	"testing"

	"loop.example/s01733/impl"
)

// house is a store with all that a store may have: a manifest of several edits,
// tables of two levels, several logs, deletions in each of them.
func house() impl.FS {
	edits := []impl.Edit{
		{Log: 1, Next: 2},
		{Adds: []impl.TableRef{table(2, 0, "a", "c"), table(3, 1, "b", "d")}, Log: 5, Next: 8, Last: 10},
	}
	return storeDir(4, edits,
		"2.sst", sst(put("a", 10, "a10"), del("c", 9)),
		"3.sst", sst(put("b", 3, "b3"), put("c", 4, "c4"), put("d", 5, "d5")),
		"5.log", logText(entries(put("a", 11, "a11")), entries(del("d", 12), put("e", 13, "e13"))),
		"7.log", logText(entries(put("f", 14, "f14"))))
}

const houseHolds = "a=a11 b=b3 e=e13 f=f14"

// nearNames are names that are nearly store names.
func nearNames() []string {
	return []string{
		"+1.sst", "-1.log", ".log", ".sst", "0.log", "0.sst", "01.log", "01.sst", "1", "1 .log", "1.LOG", "1.log ", "1.log.tmp", "1.sst2", "10000000000.log",
		"1000000000.log", "1000000000.sst", "18446744073709551617.sst", "1e3.log", "1log", "CURRENT.tm", "CURRENT.tmp2", "CURRENT2", "MANIFEST-", "MANIFEST-0", "MANIFEST-01",
		"MANIFEST-1.log", "MANIFEST-1000000000", "Repair.x", "a.log", "current", "lost/1.sst", "lost/CURRENT", "lost/repair.ok", "repair", "repair-1", "x1.log", "x1.sst",
	}
}

func nearFiles() impl.FS {
	fs := emptyDir()
	for _, name := range nearNames() {
		fs = withFile(fs, name, "data of "+name)
	}
	return fs
}

// expectDamaged looks at an opening that is refused, whatever fuel there is.
func expectDamaged(t *testing.T, what string, fs impl.FS) {
	t.Helper()
	for _, fuel := range []int{-1, 0, 3} {
		given := withFuel(fs, fuel)
		o := exec(t, given, opOpen)
		if tell(o.Answers[0]) != "6" || o.Mode != impl.ModeClosed || !sameFS(o.Fs, given) {
			t.Errorf("%s: OpOpen gave %s, mode %d, changed: %v", what, tell(o.Answers[0]), o.Mode, !sameFS(o.Fs, given))
		}
		expectPeek(t, what, given, impl.RunDamaged, "")
	}
}

// expectOpens looks at what an opening finds, and that Peek sees the same ahead
// of it and behind it.
func expectOpens(t *testing.T, what string, fs impl.FS, pairs string) impl.Outcome {
	t.Helper()
	expectPeek(t, what, fs, impl.RunOk, pairs)
	expectPeek(t, what, withQuota(withFuel(fs, 0), 0), impl.RunOk, pairs)
	o := expectSession(t, what, fs, said{opOpen, "0"}, said{opAll, strings.TrimSpace("0 " + pairs)}, said{opClose, "0"})
	expectPeek(t, what+", opened", o.Fs, impl.RunOk, pairs)
	return o
}

func TestOpenNothing(t *testing.T) {
	want := []string{
		"create 1.log", "create MANIFEST-2", "append MANIFEST-2 64", "sync MANIFEST-2",
		"create CURRENT.tmp", "append CURRENT.tmp 10", "sync CURRENT.tmp", "rename CURRENT.tmp CURRENT",
	}
	o := expectSteps(t, "the empty directory", emptyDir(), nil, opOpen, impl.RunOk, want...)
	if fileOf(o.Fs, "CURRENT").Data != "MANIFEST-2" || fileOf(o.Fs, "MANIFEST-2").Data != editFrame(impl.Edit{Log: 1, Next: 3}) || o.Mode != impl.ModeOpen {
		t.Errorf("opening made %s", show(o.Fs))
	}
	expectOpens(t, "the empty directory", emptyDir(), "")
	near := nearFiles()
	o = expectSteps(t, "files that have no store name", near, nil, opOpen, impl.RunOk, want...)
	for _, f := range near.Files {
		if fileOf(o.Fs, f.Name) != f {
			t.Errorf("opening touched %s", f.Name)
		}
	}
	expectOpens(t, "files that have no store name", near, "")
}

func TestOpenWithoutCurrent(t *testing.T) {
	for _, name := range []string{"1.log", "2.log", "999999999.log", "7.sst"} {
		expectDamaged(t, name, withFile(emptyDir(), name, "x"))
		expectDamaged(t, name+" among others", withFile(withFile(nearFiles(), name, "x"), "8.log", ""))
		expectDamaged(t, name+" with a batch", withFile(emptyDir(), name, logText(entries(put("a", 1, "1")))))
	}
	expectDamaged(t, "a table that is empty", withFile(emptyDir(), "7.sst", ""))
	expectDamaged(t, "a table", withFile(emptyDir(), "7.sst", sst(put("a", 1, "1"))))
	fs := emptyDir()
	for _, name := range []string{"10.log", "2.log", "999999999.log", "CURRENT.tmp", "MANIFEST-3", "MANIFEST-999999999", "notes"} {
		fs = withFile(fs, name, "")
	}
	fs = withFile(withFile(fs, "MANIFEST-3", "x"), "CURRENT.tmp", "MANIFEST-3")
	o := expectSteps(t, "left-overs", fs, nil, opOpen, impl.RunOk,
		"remove 10.log", "remove 2.log", "remove 999999999.log", "remove CURRENT.tmp", "remove MANIFEST-3", "remove MANIFEST-999999999",
		"create 1.log", "create MANIFEST-2", "append MANIFEST-2 64", "sync MANIFEST-2",
		"create CURRENT.tmp", "append CURRENT.tmp 10", "sync CURRENT.tmp", "rename CURRENT.tmp CURRENT")
	if names(o.Fs) != "1.log CURRENT MANIFEST-2 notes" {
		t.Errorf("opening left %s", names(o.Fs))
	}
	expectOpens(t, "left-overs", fs, "")
}

func TestOpenDuringARepair(t *testing.T) {
	for _, name := range []string{"repair.", "repair.ok", "repair.go", "repair.tab", "repair.tmp", "repair.x"} {
		expectDamaged(t, name, withFile(emptyDir(), name, ""))
		expectDamaged(t, name+" beside a store", withFile(house(), name, "x"))
	}
}

func TestOpenAHouse(t *testing.T) {
	o := expectSteps(t, "a store", house(), nil, opOpen, impl.RunOk,
		"create 8.sst", "append 8.sst 192", "sync 8.sst", "create 9.log", "create MANIFEST-10", "append MANIFEST-10 64", "sync MANIFEST-10",
		"create CURRENT.tmp", "append CURRENT.tmp 11", "sync CURRENT.tmp", "rename CURRENT.tmp CURRENT",
		"remove 5.log", "remove 7.log", "remove MANIFEST-4")
	want := editFrame(impl.Edit{Adds: []impl.TableRef{table(2, 0, "a", "c"), table(3, 1, "b", "d"), table(8, 0, "a", "f")}, Log: 9, Next: 11, Last: 14})
	if fileOf(o.Fs, "MANIFEST-10").Data != want || fileOf(o.Fs, "CURRENT").Data != "MANIFEST-10" {
		t.Errorf("opening made the manifest %q", fileOf(o.Fs, "MANIFEST-10").Data)
	}
	if got := fileOf(o.Fs, "8.sst").Data; got != sst(put("a", 11, "a11"), del("d", 12), put("e", 13, "e13"), put("f", 14, "f14")) {
		t.Errorf("opening made the table %s", brief(got))
	}
	if names(o.Fs) != "2.sst 3.sst 8.sst 9.log CURRENT MANIFEST-10" {
		t.Errorf("opening left %s", names(o.Fs))
	}
	expectOpens(t, "a store", house(), houseHolds)
	o = expectSession(t, "its next Seq", house(), said{opOpen, "0"}, said{opPut("z", "1"), "0"})
	if fileOf(o.Fs, "9.log").Data != logText(entries(put("z", 15, "1"))) {
		t.Errorf("the log is %q", fileOf(o.Fs, "9.log").Data)
	}
}

// The newest of several entries with one key goes to the table, whatever their
// order by key.
func TestOpenOfALogThatSaysAKeyTwice(t *testing.T) {
	fs := storeDir(1, []impl.Edit{{Log: 2, Next: 3}}, "2.log", logText(entries(put("b", 1, "1"), put("a", 2, "2")), entries(put("b", 3, "3")), entries(del("a", 4), put("c", 5, ""))))
	o := expectOpens(t, "a log", fs, "b=3 c=")
	if fileOf(o.Fs, "3.sst").Data != sst(del("a", 4), put("b", 3, "3"), put("c", 5, "")) {
		t.Errorf("opening made the table %q", fileOf(o.Fs, "3.sst").Data)
	}
}

func TestOpenRemovesWhatIsNotInUse(t *testing.T) {
	fs := house()
	for _, name := range []string{"1.log", "10.sst", "2.log", "4.log", "4.sst", "5.sst", "CURRENT.tmp", "MANIFEST-1", "MANIFEST-44", "MANIFEST-5", "1000000000.log", "04.log", "lost/1.sst", "MANIFEST-0"} {
		fs = withFile(fs, name, "junk")
	}
	// Numbers that are gone do not count; 44 and 10 are free again.
	o := expectSteps(t, "strays", fs, nil, opOpen, impl.RunOk,
		"remove 1.log", "remove 10.sst", "remove 2.log", "remove 4.log", "remove 4.sst", "remove 5.sst", "remove CURRENT.tmp", "remove MANIFEST-1", "remove MANIFEST-44", "remove MANIFEST-5",
		"create 8.sst", "append 8.sst 192", "sync 8.sst", "create 9.log", "create MANIFEST-10", "append MANIFEST-10 64", "sync MANIFEST-10",
		"create CURRENT.tmp", "append CURRENT.tmp 11", "sync CURRENT.tmp", "rename CURRENT.tmp CURRENT",
		"remove 5.log", "remove 7.log", "remove MANIFEST-4")
	if names(o.Fs) != "04.log 1000000000.log 2.sst 3.sst 8.sst 9.log CURRENT MANIFEST-0 MANIFEST-10 lost/1.sst" {
		t.Errorf("opening left %s", names(o.Fs))
	}
	expectOpens(t, "strays", fs, houseHolds)
}

func TestOpenDamagedCurrent(t *testing.T) {
	for _, current := range notManifests() {
		fs := withFile(withFile(house(), "CURRENT", current), "MANIFEST-1", fileOf(house(), "MANIFEST-4").Data)
		expectDamaged(t, "CURRENT is "+brief(current), fs)
	}
	expectDamaged(t, "no such manifest", withFile(house(), "CURRENT", "MANIFEST-5"))
	expectDamaged(t, "the manifest is gone", withoutFile(house(), "MANIFEST-4"))
	expectDamaged(t, "CURRENT alone", withFile(emptyDir(), "CURRENT", "MANIFEST-1"))
	expectDamaged(t, "CURRENT is gone", withoutFile(house(), "CURRENT"))
}

func TestOpenDamagedManifest(t *testing.T) {
	good := fileOf(house(), "MANIFEST-4").Data
	at := func(data string) impl.FS { return withFile(house(), "MANIFEST-4", data) }
	for what, data := range map[string]string{
		"empty": "", "one byte": "x", "not whole": good[:63], "its first frame hurt": withByte(good, 9, 99), "another kind": impl.Frame(impl.FrameBatch, "x"),
		"no edit behind them":            good + impl.Frame(impl.FrameEdit, "x"),
		"an edit that cannot be applied": good + editFrame(impl.Edit{Dels: []int{9}, Log: 5, Next: 8, Last: 10}),
		"a number in use":                good + editFrame(impl.Edit{Adds: []impl.TableRef{table(2, 0, "a", "c")}, Log: 5, Next: 8, Last: 10}),
	} {
		expectDamaged(t, what, at(data))
	}
	for what, end := range map[string]string{"a byte": "x", "half a frame": good[:32], "another kind": impl.Frame(impl.FrameMark, ""), "a page of zeros": strings.Repeat("\x00", 64)} {
		expectOpens(t, "torn with "+what, at(good+end), houseHolds)
	}
	// Only the first edit is whole: a store without tables, and no entry follows Last 0.
	expectDamaged(t, "its second frame hurt", at(withByte(good, 64+9, 99)))
}

func TestOpenDamagedTables(t *testing.T) {
	for _, name := range []string{"2.sst", "3.sst"} {
		good := fileOf(house(), name).Data
		expectDamaged(t, name+" is gone", withoutFile(house(), name))
		for what, data := range map[string]string{
			"empty": "", "one byte": "x", "cut": good[:len(good)-1], "a byte more": good + "\x00", "a page more": good + strings.Repeat("\x00", 64),
			"without entries": sst(), "another table": sst(put("q", 1, "q")), "a log": fileOf(house(), "5.log").Data,
		} {
			expectDamaged(t, name+": "+what, withFile(house(), name, data))
		}
		for at := range len(good) {
			fs := withFile(house(), name, withByte(good, at, good[at]^4))
			if _, code := impl.Peek(fs); code != impl.RunDamaged {
				t.Errorf("%s hurt at %d: Peek gave %d", name, at, code)
			}
		}
	}
}

func TestOpenTablesThatDoNotFit(t *testing.T) {
	at := func(es ...impl.Entry) impl.FS { return withFile(house(), "2.sst", sst(es...)) }
	expectDamaged(t, "another first key", at(put("A", 10, "a10"), del("c", 9)))
	expectDamaged(t, "a first key more", at(put("A", 10, "a10"), put("a", 10, "a10"), del("c", 9)))
	expectDamaged(t, "another last key", at(put("a", 10, "a10"), del("b", 9)))
	expectDamaged(t, "a last key more", at(put("a", 10, "a10"), del("c", 9), del("cc", 9)))
	expectDamaged(t, "a first Seq above Last", at(put("a", 11, "a10"), del("c", 9)))
	expectDamaged(t, "a last Seq above Last", at(put("a", 10, "a10"), del("c", 11)))
	expectDamaged(t, "a Seq above Last between", at(put("a", 10, "a10"), put("b", 11, ""), del("c", 9)))
	expectDamaged(t, "the greatest Seq", at(put("a", impl.MaxSeq, "a10"), del("c", 9)))
	expectOpens(t, "other entries with the same first and last key", at(put("a", 10, "a10"), put("a", 2, "x"), put("b", 9, "b9"), del("c", 10), put("c", 1, "x")), "a=a11 b=b9 e=e13 f=f14")
	more := []impl.Entry{put("a", 10, "a10")}
	for i := range 30 {
		more = append(more, put("b"+strconv.Itoa(100+i), 1+i%10, ""))
	}
	more = append(more, del("c", 9))
	if _, code := impl.Peek(at(more...)); code != impl.RunOk {
		t.Errorf("several blocks: %d", code)
	}
	more[17].Seq = 11
	expectDamaged(t, "a Seq above Last in the third block", at(more...))
}

func TestOpenDamagedLogs(t *testing.T) {
	five := fileOf(house(), "5.log").Data
	at := func(name string, data string) impl.FS { return withFile(house(), name, data) }
	one := func(seq int) string { return logText(entries(put("q", seq, "q"))) }
	for what, fs := range map[string]impl.FS{
		"no entries in a payload":           at("5.log", batch(entriesText(nil))+five),
		"no entries in the last payload":    at("7.log", one(14)+batch(entriesText(nil))),
		"a payload that is empty":           at("5.log", batch("")),
		"a payload of other bytes":          at("5.log", batch("x")),
		"a payload that is not all entries": at("5.log", batch(entriesText(entries(put("a", 11, "")))+"\x00")),
		"an entry that is not valid":        at("5.log", batch(entriesText(entries(put("", 11, ""))))),
		"the first Seq is Last":             at("5.log", one(10)),
		"the first Seq is Last + 2":         at("5.log", one(12)),
		"the first log is empty":            at("5.log", ""),
		"the first log is gone":             withoutFile(house(), "5.log"),
		"the first log has more":            at("5.log", five+one(14)),
		"the first log has less":            at("5.log", five[:64]),
		"the first log is torn early":       at("5.log", five[:127]),
		"its second frame is hurt":          at("5.log", withByte(five, 64+20, 99)),
		"a Seq twice in a batch":            at("7.log", logText(entries(put("a", 14, ""), put("b", 14, "")))),
		"a Seq passed over in a batch":      at("7.log", logText(entries(put("a", 14, ""), put("b", 16, "")))),
		"Seqs turned round in a batch":      at("7.log", logText(entries(put("a", 15, ""), put("b", 14, "")))),
		"a Seq twice in two batches":        at("7.log", one(14)+one(14)),
		"a Seq passed over in two batches":  at("7.log", one(14)+one(16)),
		"the logs begin again":              at("7.log", one(11)),
		"a log more that begins again":      at("9.log", one(11)),
		"a log between":                     at("6.log", one(15)),
		"the greatest Seq":                  at("7.log", one(impl.MaxSeq)),
	} {
		expectDamaged(t, what, fs)
	}
}

func TestOpenLogs(t *testing.T) {
	five := fileOf(house(), "5.log").Data
	at := func(name string, data string) impl.FS { return withFile(house(), name, data) }
	one := func(seq int, key string) string { return logText(entries(put(key, seq, "n"))) }
	for _, end := range []string{"x", five[:63], five[64:104], strings.Repeat("\x00", 64), impl.Frame(impl.FrameEdit, "x"), withByte(five, 3, 9)} {
		expectOpens(t, "torn with "+brief(end), at("5.log", five+end), houseHolds)
		expectOpens(t, "both torn with "+brief(end), withFile(at("5.log", five+end), "7.log", fileOf(house(), "7.log").Data+end), houseHolds)
	}
	expectOpens(t, "the second torn", at("7.log", fileOf(house(), "7.log").Data[:63]), "a=a11 b=b3 e=e13")
	expectOpens(t, "the second empty", at("7.log", ""), "a=a11 b=b3 e=e13")
	expectOpens(t, "the second gone", withoutFile(house(), "7.log"), "a=a11 b=b3 e=e13")
	expectOpens(t, "both gone", withoutFile(withoutFile(house(), "5.log"), "7.log"), "a=a10 b=b3 d=d5")
	expectOpens(t, "both empty", withFile(at("5.log", ""), "7.log", ""), "a=a10 b=b3 d=d5")
	expectOpens(t, "an empty one between", at("6.log", ""), houseHolds)
	expectOpens(t, "one below the version's log, of other bytes", at("4.log", "x"), houseHolds)
	expectOpens(t, "one below the version's log, with the same Seqs", at("4.log", five), houseHolds)
	expectOpens(t, "a frame of another kind first", at("7.log", impl.Frame(impl.FrameEdit, "x")+one(14, "n")), "a=a11 b=b3 e=e13")
	// By name 10.log and 100.log come ahead of 7.log and 9.log.
	fs := withFile(withFile(at("9.log", one(15, "g")), "10.log", one(16, "h")), "100.log", one(17, "g"))
	o := expectOpens(t, "in the order of numbers", fs, "a=a11 b=b3 e=e13 f=f14 g=n h=n")
	if names(o.Fs) != "101.sst 102.log 2.sst 3.sst CURRENT MANIFEST-103" {
		t.Errorf("opening left %s", names(o.Fs))
	}
	expectDamaged(t, "not in the order of names", withFile(at("9.log", one(16, "g")), "10.log", one(15, "h")))
}

// A store that has no entries in its logs gets a log and a manifest, and no table.
func TestOpenWithoutEntries(t *testing.T) {
	fs := storeDir(3, []impl.Edit{{Adds: []impl.TableRef{table(1, 1, "a", "b")}, Log: 2, Next: 4, Last: 7}}, "1.sst", sst(put("a", 7, "x"), put("b", 1, "y")))
	want := []string{
		"create 4.log", "create MANIFEST-5", "append MANIFEST-5 64", "sync MANIFEST-5",
		"create CURRENT.tmp", "append CURRENT.tmp 10", "sync CURRENT.tmp", "rename CURRENT.tmp CURRENT",
	}
	o := expectSteps(t, "no log", fs, nil, opOpen, impl.RunOk, append(want, "remove MANIFEST-3")...)
	if fileOf(o.Fs, "MANIFEST-5").Data != editFrame(impl.Edit{Adds: []impl.TableRef{table(1, 1, "a", "b")}, Log: 4, Next: 6, Last: 7}) {
		t.Errorf("opening made the manifest %q", fileOf(o.Fs, "MANIFEST-5").Data)
	}
	expectSteps(t, "an empty log", withFile(fs, "2.log", ""), nil, opOpen, impl.RunOk, append(want, "remove 2.log", "remove MANIFEST-3")...)
	expectSteps(t, "a torn log", withFile(fs, "2.log", "x"), nil, opOpen, impl.RunOk, append(want, "remove 2.log", "remove MANIFEST-3")...)
	expectOpens(t, "a torn log", withFile(fs, "2.log", "x"), "a=x b=y")
}

func TestOpenCountsFromTheGreatestNumber(t *testing.T) {
	for _, c := range []struct {
		what  string
		fs    impl.FS
		files string
	}{
		{"Next", storeDir(3, []impl.Edit{{Log: 2, Next: 50}}), "50.log CURRENT MANIFEST-51"},
		{"the manifest", storeDir(60, []impl.Edit{{Log: 2, Next: 50}}), "61.log CURRENT MANIFEST-62"},
		{"the manifest at Next", storeDir(50, []impl.Edit{{Log: 2, Next: 50}}), "51.log CURRENT MANIFEST-52"},
		{"a log", storeDir(3, []impl.Edit{{Log: 2, Next: 50}}, "70.log", ""), "71.log CURRENT MANIFEST-72"},
		{"a log just below Next", storeDir(3, []impl.Edit{{Log: 2, Next: 50}}, "49.log", ""), "50.log CURRENT MANIFEST-51"},
		{"a log that is removed", storeDir(3, []impl.Edit{{Log: 20, Next: 21}}, "19.log", ""), "21.log CURRENT MANIFEST-22"},
		{"a table that is removed", storeDir(3, []impl.Edit{{Log: 2, Next: 50}}, "80.sst", ""), "50.log CURRENT MANIFEST-51"},
		{"a manifest that is removed", storeDir(3, []impl.Edit{{Log: 2, Next: 50}}, "MANIFEST-80", ""), "50.log CURRENT MANIFEST-51"},
		{"a name that is no store name", storeDir(3, []impl.Edit{{Log: 2, Next: 50}}, "080.log", ""), "080.log 50.log CURRENT MANIFEST-51"},
	} {
		o := exec(t, c.fs, opOpen)
		expectCode(t, c.what, o, impl.RunOk, impl.ModeOpen)
		if names(o.Fs) != c.files {
			t.Errorf("%s: opening left %s, want %s", c.what, names(o.Fs), c.files)
		}
	}
}

func TestOpenGivesUpForBytes(t *testing.T) {
	fs := withFile(withFile(house(), "1.log", "junk"), "CURRENT.tmp", "junk")
	had := totalOf(fs) - 8
	begin := []string{"remove 1.log", "remove CURRENT.tmp", "create 8.sst"}
	full := func(what string, quota int, steps ...string) {
		t.Helper()
		o := expectSteps(t, what, withQuota(fs, quota), nil, opOpen, impl.RunFull, append(slices.Clone(begin), steps...)...)
		if !slices.Equal(o.Fs.Files, house().Files) || o.Mode != impl.ModeClosed {
			t.Errorf("%s: giving up left %s", what, show(o.Fs))
		}
	}
	table := []string{"append 8.sst 192", "sync 8.sst", "create 9.log", "create MANIFEST-10"}
	manifest := append(slices.Clone(table), "append MANIFEST-10 64", "sync MANIFEST-10", "create CURRENT.tmp")
	for _, quota := range []int{0, had, had + 191} {
		full("no room for the table", quota, "-", "remove 8.sst")
	}
	for _, quota := range []int{had + 192, had + 192 + 63} {
		full("no room for the manifest", quota, append(slices.Clone(table), "-", "remove 8.sst", "remove 9.log", "remove MANIFEST-10")...)
	}
	for _, quota := range []int{had + 256, had + 256 + 10} {
		full("no room for CURRENT.tmp", quota, append(slices.Clone(manifest), "-", "remove 8.sst", "remove 9.log", "remove MANIFEST-10", "remove CURRENT.tmp")...)
	}
	o := exec(t, withQuota(fs, had+256+11), opOpen)
	expectCode(t, "just room enough", o, impl.RunOk, impl.ModeOpen)
}

func TestOpenGivesUpForFiles(t *testing.T) {
	full := func(n int, steps ...string) {
		t.Helper()
		fs := crowded(house(), n)
		o := expectSteps(t, strconv.Itoa(n)+" files", fs, nil, opOpen, impl.RunFull, steps...)
		if !slices.Equal(o.Fs.Files, fs.Files) || o.Mode != impl.ModeClosed {
			t.Errorf("%d files: giving up left %s", n, show(o.Fs))
		}
	}
	table := []string{"create 8.sst", "append 8.sst 192", "sync 8.sst"}
	full(200, "-")
	full(199, append(slices.Clone(table), "-", "remove 8.sst")...)
	full(198, append(slices.Clone(table), "create 9.log", "-", "remove 8.sst", "remove 9.log")...)
	full(197, append(slices.Clone(table), "create 9.log", "create MANIFEST-10", "append MANIFEST-10 64", "sync MANIFEST-10", "-", "remove 8.sst", "remove 9.log", "remove MANIFEST-10")...)
	o := exec(t, crowded(house(), 196), opOpen)
	expectCode(t, "196 files", o, impl.RunOk, impl.ModeOpen)
	// Taking strays out makes room.
	o = exec(t, withFile(crowded(house(), 196), "1.log", ""), opOpen)
	expectCode(t, "196 files and a stray", o, impl.RunOk, impl.ModeOpen)
	expectSteps(t, "nothing and 199 files", crowded(emptyDir(), 199), nil, opOpen, impl.RunFull, "create 1.log", "-", "remove 1.log")
}

// Where the process dies while it gives up, what was not yet taken out stays.
func TestOpenDiesGivingUp(t *testing.T) {
	fs := withQuota(house(), totalOf(house())+256)
	steps, _ := stepsOf(t, fs, nil, opOpen)
	for left := range 5 {
		o := exec(t, withFuel(fs, len(steps)-left), opOpen)
		if left == 0 {
			expectCode(t, "given up", o, impl.RunFull, impl.ModeClosed)
			continue
		}
		expectCode(t, "dead", o, impl.RunDead, impl.ModeDead)
		want := []string{"8.sst", "9.log", "MANIFEST-10", "CURRENT.tmp"}[4-left:]
		slices.Sort(want)
		if got := gone(o.Fs, house()); !slices.Equal(got, want) {
			t.Errorf("dead %d steps from the end: %v is there, want %v", left, got, want)
		}
	}
}

// numbered is a store with a table, whose opening takes numbers from next on.
func numbered(next int, texts ...string) impl.FS {
	return storeDir(3, []impl.Edit{{Adds: []impl.TableRef{table(1, 0, "a", "b")}, Log: 2, Next: next, Last: 5}},
		slices.Concat(texts, []string{"1.sst", sst(put("a", 5, "x"), del("b", 4))})...)
}

func TestOpenNumbersRunOut(t *testing.T) {
	stray := []string{"2.log", logText(entries(put("c", 6, "z"))), "1.log", "stray"}
	o := expectOpens(t, "MaxNum less 3", numbered(impl.MaxNum-3, stray...), "a=x c=z")
	if names(o.Fs) != "1.sst 999999996.sst 999999997.log CURRENT MANIFEST-999999998" {
		t.Errorf("opening left %s", names(o.Fs))
	}
	expectDump(t, "MaxNum less 3", o.Fs, "log 999999997 next 999999999 last 6\ntable 1 level 0 size 192\ntable 999999996 level 0 size 192\n")
	expectSession(t, "opened once more", o.Fs, said{opOpen, "3"}, said{opGet("a"), "1"})
	for _, next := range []int{impl.MaxNum - 2, impl.MaxNum - 1, impl.MaxNum} {
		what := "next " + strconv.Itoa(next)
		o := expectSteps(t, what, numbered(next, stray...), nil, opOpen, impl.RunFull, "remove 1.log")
		if o.Mode != impl.ModeClosed || !slices.Equal(o.Fs.Files, numbered(next, stray[:2]...).Files) {
			t.Errorf("%s left %s", what, show(o.Fs))
		}
		expectPeek(t, what, numbered(next, stray...), impl.RunOk, "a=x c=z")
		expectSteps(t, what+" and nothing to remove", numbered(next), nil, opOpen, impl.RunFull)
	}
	expectSteps(t, "the number of a log", numbered(9, "999999997.log", ""), nil, opOpen, impl.RunFull)
	expectSteps(t, "the greatest number of a log", numbered(9, "999999999.log", ""), nil, opOpen, impl.RunFull)
	o = exec(t, numbered(9, "999999995.log", ""), opOpen)
	expectCode(t, "the number of a log that leaves just enough", o, impl.RunOk, impl.ModeOpen)
	if names(o.Fs) != "1.sst 999999996.log CURRENT MANIFEST-999999997" {
		t.Errorf("opening left %s", names(o.Fs))
	}
}
