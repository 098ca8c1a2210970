package tests

import (
	"slices"
	"strconv"
	"strings"
	"testing"

	"loop.example/s01733/impl"
)

// way is a mode and operations that lead there from the empty directory.
type way struct {
	mode int
	list []impl.Op
}

// ways has one for each mode; there are a table, keys in mem and a deletion.
func ways() []way {
	open := ops(opOpen, opPut("a", "1"), opPut("k", "2"), opFlush, opDel("a"), opPut("b", "3"))
	return []way{
		{impl.ModeClosed, then(open, opClose)},
		{impl.ModeOpen, open},
		{impl.ModeDead, then(open, opFuel(0), opSync)},
	}
}

// form is one way to fill in an operation, and what it is answered where its
// mode fits; RunBad for one that is not as described.
type form struct {
	what string
	op   impl.Op
	code int
}

func long(n int) string {
	return strings.Repeat("k", n)
}

func entryForms() []form {
	at := func(what string, code int, e impl.Entry) form {
		return form{"a batch with " + what, opBatch(impl.Entry{Key: "x", Kind: 1}, e), code}
	}
	return []form{
		at("a key of no bytes", impl.RunBad, impl.Entry{Kind: 1}),
		at("a key of one byte", impl.RunOk, impl.Entry{Key: "k", Kind: 1}),
		at("a key of 1000 bytes", impl.RunOk, impl.Entry{Key: long(1000), Kind: 1}),
		at("a key of 1001 bytes", impl.RunBad, impl.Entry{Key: long(1001), Kind: 1}),
		at("a value of 4000 bytes", impl.RunOk, impl.Entry{Key: "k", Kind: 1, Val: long(4000)}),
		at("a value of 4001 bytes", impl.RunBad, impl.Entry{Key: "k", Kind: 1, Val: long(4001)}),
		at("a deletion", impl.RunOk, impl.Entry{Key: "k"}),
		at("a deletion with a value", impl.RunBad, impl.Entry{Key: "k", Val: "v"}),
		at("a deletion of a key of 1000 bytes", impl.RunOk, impl.Entry{Key: long(1000)}),
		at("a deletion of a key of 1001 bytes", impl.RunBad, impl.Entry{Key: long(1001)}),
		at("Kind -1", impl.RunBad, impl.Entry{Key: "k", Kind: -1}),
		at("Kind 2", impl.RunBad, impl.Entry{Key: "k", Kind: 2}),
		at("Kind 257", impl.RunBad, impl.Entry{Key: "k", Kind: 257}),
		at("Seq 1", impl.RunBad, impl.Entry{Key: "k", Seq: 1, Kind: 1}),
		at("Seq -1", impl.RunBad, impl.Entry{Key: "k", Seq: -1, Kind: 1}),
		at("the next Seq", impl.RunBad, impl.Entry{Key: "k", Seq: 5, Kind: 1}),
		{"no batch", opBatch(), impl.RunBad},
		{"a batch of none", impl.Op{Kind: impl.OpBatch, Batch: []impl.Entry{}}, impl.RunBad},
		{"a batch of one", opBatch(impl.Entry{Key: "k"}), impl.RunOk},
		{"a batch of 1000", opBatch(copies(impl.Entry{Key: "k"}, 1000)...), impl.RunOk},
		{"a batch of 1001", opBatch(copies(impl.Entry{Key: "k"}, 1001)...), impl.RunBad},
		{"a batch whose last is bad", opBatch(append(copies(impl.Entry{Key: "k"}, 999), impl.Entry{})...), impl.RunBad},
		{"a batch whose first is bad", opBatch(append([]impl.Entry{{}}, copies(impl.Entry{Key: "k"}, 999)...)...), impl.RunBad},
	}
}

func textForms() []form {
	return []form{
		{"a put of no key", opPut("", "v"), impl.RunBad},
		{"a put of a key of one byte", opPut("k", ""), impl.RunOk},
		{"a put of a key of 1000 bytes", opPut(long(1000), "v"), impl.RunOk},
		{"a put of a key of 1001 bytes", opPut(long(1001), "v"), impl.RunBad},
		{"a put of a value of 3999 bytes", opPut("k", long(3999)), impl.RunOk},
		{"a put of a value of 4000 bytes", opPut("k", long(4000)), impl.RunOk},
		{"a put of a value of 4001 bytes", opPut("k", long(4001)), impl.RunBad},
		{"a deletion of no key", opDel(""), impl.RunBad},
		{"a deletion of a key of one byte", opDel("k"), impl.RunOk},
		{"a deletion of a key that is not there", opDel("zz"), impl.RunOk},
		{"a deletion of a key of 1000 bytes", opDel(long(1000)), impl.RunOk},
		{"a deletion of a key of 1001 bytes", opDel(long(1001)), impl.RunBad},
		{"a get of no key", opGet(""), impl.RunBad},
		{"a get of a key of one byte", opGet("k"), impl.RunOk},
		{"a get of a key of 1000 bytes", opGet(long(1000)), impl.RunNone},
		{"a get of a key of 1001 bytes", opGet(long(1001)), impl.RunBad},
		{"a scan from 1000 bytes", opScan(long(1000), ""), impl.RunOk},
		{"a scan from 1001 bytes", opScan(long(1001), ""), impl.RunBad},
		{"a scan to 1000 bytes", opScan("", long(1000)), impl.RunOk},
		{"a scan to 1001 bytes", opScan("", long(1001)), impl.RunBad},
	}
}

func numberForms() []form {
	list := []form{
		{"compact -1", opCompact(-1), impl.RunBad}, {"compact 0", opCompact(0), impl.RunOk}, {"compact 1", opCompact(1), impl.RunOk},
		{"compact 2", opCompact(2), impl.RunOk}, {"compact 3", opCompact(3), impl.RunBad},
		{"compact at the least number", opCompact(minInt), impl.RunBad}, {"compact at the greatest", opCompact(maxInt), impl.RunBad},
		{"fuel -2", opFuel(-2), impl.RunBad}, {"fuel -1", opFuel(-1), impl.RunOk}, {"fuel 0", opFuel(0), impl.RunOk},
		{"fuel 1", opFuel(1), impl.RunOk}, {"the least fuel", opFuel(minInt), impl.RunBad}, {"the greatest fuel", opFuel(maxInt), impl.RunOk},
		{"a crash with 199 numbers", opCrash(make([]int, 199)...), impl.RunOk}, {"a crash with 200", opCrash(make([]int, 200)...), impl.RunOk},
		{"a crash with 201", opCrash(make([]int, 201)...), impl.RunBad},
		{"a crash with none", impl.Op{Kind: impl.OpCrash, Keep: []int{}}, impl.RunOk}, {"a crash with any numbers", opCrash(minInt, maxInt, -1), impl.RunOk},
	}
	for _, op := range ops(opOpen, opSync, opFlush, opClose, opCheck, opRepair, opDump, opList, opAll) {
		list = append(list, form{"kind " + strconv.Itoa(op.Kind), op, impl.RunOk})
		op.Batch, op.Keep = []impl.Entry{}, []int{}
		list = append(list, form{"kind " + strconv.Itoa(op.Kind) + " with lists that are empty and not nil", op, impl.RunOk})
	}
	for _, kind := range []int{minInt, -1, 0, 18, 19, 256 + impl.OpList, maxInt} {
		list = append(list, form{"kind " + strconv.Itoa(kind), impl.Op{Kind: kind}, impl.RunBad})
	}
	return list
}

// unnamedForms sets, in an operation that is else as described, each field that
// is not named at it.
func unnamedForms() []form {
	list := []form{}
	add := func(op impl.Op, fields string) {
		for _, field := range fields {
			wrong := op
			switch field {
			case 'K':
				wrong.Key = "k"
			case 'V':
				wrong.Val = "v"
			case 'N':
				wrong.N = 1
			case 'M':
				wrong.N = -1
			case 'B':
				wrong.Batch = []impl.Entry{{}}
			case 'P':
				wrong.Keep = []int{0}
			}
			list = append(list, form{"kind " + strconv.Itoa(op.Kind) + " with " + string(field), wrong, impl.RunBad})
		}
	}
	for _, op := range ops(opOpen, opSync, opFlush, opClose, opCheck, opRepair, opDump, opList) {
		add(op, "KVNMBP")
	}
	add(opPut("k", "v"), "NMBP")
	add(opDel("k"), "VNMBP")
	add(opBatch(impl.Entry{Key: "k"}), "KVNMP")
	add(opGet("k"), "VNMBP")
	add(opAll, "NMBP")
	add(opCompact(0), "KVBP")
	add(opCrash(0), "KVNMB")
	add(opFuel(1), "KVBP")
	add(opPoke("CURRENT", 0, "M"), "BP")
	return list
}

func allForms() []form {
	return slices.Concat(entryForms(), textForms(), numberForms(), unnamedForms())
}

// wantedCode is what comes ahead of the operation itself: RunDead, then RunBad,
// then RunState.
func wantedCode(f form, mode int) (int, bool) {
	needed, needs := neededMode(f.op.Kind)
	switch {
	case mode == impl.ModeDead && !(f.op.Kind == impl.OpCrash && f.code != impl.RunBad):
		return impl.RunDead, false
	case f.code == impl.RunBad:
		return impl.RunBad, false
	case needs && needed != mode:
		return impl.RunState, false
	}
	return f.code, true
}

func TestEveryOperationInEveryMode(t *testing.T) {
	for _, m := range ways() {
		before := exec(t, emptyDir(), m.list...)
		if before.Mode != m.mode {
			t.Fatalf("mode %d, want %d", before.Mode, m.mode)
		}
		for _, f := range allForms() {
			o := impl.Exec(emptyDir(), then(m.list, f.op))
			a := o.Answers[len(m.list)]
			want, does := wantedCode(f, m.mode)
			if a.Code != want {
				t.Errorf("%s in mode %d: %d, want %d", f.what, m.mode, a.Code, want)
			}
			if !does && (o.Mode != m.mode || !sameFS(o.Fs, before.Fs) || a.Val != "" || len(a.Pairs) > 0) {
				t.Errorf("%s in mode %d does something", f.what, m.mode)
			}
		}
	}
}

// An operation that is refused leaves the process as it was too: what is in mem
// and the Seqs behind it.
func TestRefusedOperationsLeaveTheProcess(t *testing.T) {
	list := ways()[impl.ModeOpen].list
	check := ops(opAll, opPut("z", "9"), opFlush, opAll, opDump, opList)
	want := exec(t, emptyDir(), then(list, check...)...)
	for _, f := range allForms() {
		if code, does := wantedCode(f, impl.ModeOpen); does || code == impl.RunOk {
			continue
		}
		got := impl.Exec(emptyDir(), slices.Concat(list, ops(f.op), check))
		got.Answers = slices.Delete(got.Answers, len(list), len(list)+1)
		if !sameOutcome(got, want) {
			t.Errorf("%s changes the process", f.what)
		}
	}
}

func TestDeadAheadOfBadAheadOfState(t *testing.T) {
	bad := impl.Op{Kind: impl.OpGet}
	expectSession(t, "closed", emptyDir(), said{bad, "2"}, said{opGet("a"), "1"})
	expectSession(t, "open", emptyDir(), said{opOpen, "0"}, said{impl.Op{Kind: impl.OpOpen, N: 1}, "2"}, said{opOpen, "1"}, said{opCheck, "1"}, said{opRepair, "1"}, said{bad, "2"}, said{opGet("a"), "5"})
	o := expectSession(t, "dead", emptyDir(), said{opOpen, "0"}, said{opFuel(0), "0"}, said{opGet("a"), "5"}, said{opSync, "8"},
		said{opGet("a"), "8"}, said{bad, "8"}, said{opOpen, "8"}, said{impl.Op{}, "8"}, said{opFuel(-1), "8"}, said{opList, "8"}, said{opDump, "8"},
		said{opPoke("CURRENT", 0, "x"), "8"}, said{opCheck, "8"}, said{opRepair, "8"}, said{opCrash(make([]int, 201)...), "8"},
		said{impl.Op{Kind: impl.OpCrash, N: 1}, "8"})
	expectCode(t, "dead", o, impl.RunDead, impl.ModeDead)
	o = expectSession(t, "alive again", emptyDir(), said{opFuel(0), "0"}, said{opOpen, "8"}, said{opCrash(), "0"}, said{opOpen, "0"}, said{opAll, "0"})
	expectCode(t, "alive again", o, impl.RunOk, impl.ModeOpen)
}

func TestHowManyOperations(t *testing.T) {
	for _, n := range []int{0, 1, 1999, 2000} {
		if o := exec(t, emptyDir(), slices.Repeat(ops(opList), n)...); len(o.Answers) != n || o.Fs.Fuel != -1 {
			t.Errorf("%d operations have %d answers", n, len(o.Answers))
		}
	}
	for _, n := range []int{2001, 5000} {
		if o := impl.Exec(emptyDir(), slices.Repeat(ops(opList), n)); !sameOutcome(o, impl.Outcome{}) {
			t.Errorf("%d operations have %d answers", n, len(o.Answers))
		}
	}
	list := append(ops(opOpen), slices.Repeat(ops(opPut("k", "v")), 1999)...)
	o := exec(t, emptyDir(), list...)
	expectCode(t, "2000 operations that write", o, impl.RunOk, impl.ModeOpen)
	if totalOf(o.Fs) != 74+1999*64 {
		t.Errorf("%d bytes after 1999 puts", totalOf(o.Fs))
	}
}

func TestDirectoriesThatAreNotValid(t *testing.T) {
	for what, fs := range notValid() {
		before := copyFS(fs)
		for _, list := range [][]impl.Op{nil, ops(opOpen), ops(opCrash(), opFuel(-1), opList)} {
			if o := impl.Exec(fs, list); !sameOutcome(o, impl.Outcome{}) {
				t.Errorf("%s: %d answers", what, len(o.Answers))
			}
		}
		expectPeek(t, what, fs, impl.RunBad, "")
		if !sameFS(fs, before) {
			t.Errorf("%s: Exec changed its argument", what)
		}
	}
}

func TestFuelIsSet(t *testing.T) {
	for _, n := range []int{-1, 0, 1, 5, maxInt} {
		for _, begin := range []int{-1, 0, 7} {
			if o := exec(t, withFuel(emptyDir(), begin), opFuel(n)); o.Fs.Fuel != n || o.Mode != impl.ModeClosed {
				t.Errorf("fuel %d of %d leaves %d", n, begin, o.Fs.Fuel)
			}
		}
	}
	// Only a step finds out that there is no fuel.
	expectSession(t, "no fuel", emptyDir(), said{opOpen, "0"}, said{opPut("a", "1"), "0"}, said{opFuel(0), "0"}, said{opAll, "0 a=1"}, said{opGet("a"), "0 1"},
		said{opCompact(0), "0"}, said{opDump, "0 log 1 next 3 last 0;"}, said{opFuel(-2), "2"}, said{opFuel(1), "0"}, said{opPut("b", "2"), "0"}, said{opPut("c", "3"), "8"})
	expectSession(t, "no fuel, and nothing to flush", emptyDir(), said{opOpen, "0"}, said{opFuel(0), "0"}, said{opFlush, "0"}, said{opCompact(1), "0"}, said{opClose, "8"})
	expectSession(t, "a crash sets it", emptyDir(), said{opFuel(3), "0"}, said{opCrash(), "0"}, said{opOpen, "0"})
}

func TestPokes(t *testing.T) {
	fs := dir(0, 0, file("empty", "", 0), file("f", "hello", 3))
	for _, c := range []struct {
		name string
		at   int
		val  string
		code string
		data string
	}{
		{"f", 0, "H", "0", "Hello"}, {"f", 4, "O", "0", "hellO"}, {"f", 5, "", "0", "hello"}, {"f", 0, "", "0", "hello"}, {"f", 2, "", "0", "hello"},
		{"f", 0, "world", "0", "world"}, {"f", 1, "orld", "0", "horld"}, {"f", 3, "\x00\xff", "0", "hel\x00\xff"},
		{"f", -1, "", "2", "hello"}, {"f", -1, "x", "2", "hello"}, {"f", 6, "", "2", "hello"}, {"f", 6, "x", "2", "hello"}, {"f", 5, "x", "2", "hello"},
		{"f", 4, "xx", "2", "hello"}, {"f", 0, "worlds", "2", "hello"}, {"f", minInt, "", "2", "hello"}, {"f", maxInt, "", "2", "hello"}, {"f", maxInt, "x", "2", "hello"},
		{"empty", 0, "", "0", ""}, {"empty", 0, "x", "2", ""}, {"empty", 1, "", "2", ""}, {"empty", -1, "", "2", ""},
		{"g", 0, "", "5", ""}, {"g", 0, "x", "5", ""}, {"", 0, "", "5", ""}, {long(121), 0, "", "5", ""}, {"g", -1, "x", "5", ""},
	} {
		what := "poke " + brief(c.name) + " " + strconv.Itoa(c.at) + " " + brief(c.val)
		o := expectSession(t, what, fs, said{opPoke(c.name, c.at, c.val), c.code})
		want := copyFS(fs)
		if c.code == "0" {
			want.Files[slices.IndexFunc(want.Files, func(f impl.File) bool { return f.Name == c.name })].Data = c.data
		}
		if !sameFS(o.Fs, want) {
			t.Errorf("%s left %s", what, show(o.Fs))
		}
	}
}

func TestListAndDump(t *testing.T) {
	expectSession(t, "nothing", emptyDir(), said{opList, "0"}, said{opDump, "0 no CURRENT;"})
	fs := dir(0, 0, file("a b", "xyz", 1), file("n\n", "", 0), file("z", long(1000), 1000))
	expectSession(t, "files", fs, said{opList, "0 a b 3 1;n; 0 0;z 1000 1000;"})
	expectSession(t, "open", emptyDir(), said{opOpen, "0"}, said{opPut("a", "1"), "0"}, said{opList, "0 1.log 64 0;CURRENT 10 10;MANIFEST-2 64 64;"},
		said{opDump, "0 log 1 next 3 last 0;"}, said{opFlush, "0"}, said{opDump, "0 log 4 next 5 last 1;table 3 level 0 size 192;"},
		said{opPoke("MANIFEST-2", 64, "x"), "0"}, said{opDump, "0 log 1 next 3 last 0;torn;"}, said{opPoke("CURRENT", 9, "x"), "0"}, said{opDump, "0 bad CURRENT;"})
}

func TestCheckAndRepairAreAsked(t *testing.T) {
	list := []impl.FS{emptyDir(), storeDir(1, []impl.Edit{{Log: 2, Next: 3}}, "2.log", ""), storeDir(1, nil), holding("repair.ok", "x"), withFuel(wreck(), 9), roomy(long(101), "")}
	for _, s := range begins() {
		list = append(list, s.fs)
	}
	for _, fs := range list {
		if o := exec(t, fs, opCheck); tell(o.Answers[0]) != "0 "+strconv.Itoa(impl.Check(fs)) || !sameFS(o.Fs, fs) {
			t.Errorf("a check gave %s", tell(o.Answers[0]))
		}
		o := exec(t, fs, opRepair)
		after, code := impl.Repair(fs)
		mode := impl.ModeClosed
		if code == impl.RunDead {
			mode = impl.ModeDead
		}
		if tell(o.Answers[0]) != strconv.Itoa(code) || !sameFS(o.Fs, after) || o.Mode != mode {
			t.Errorf("a repair gave %s and mode %d", tell(o.Answers[0]), o.Mode)
		}
	}
}

func TestSessionsWithARepair(t *testing.T) {
	store := []said{{opOpen, "0"}, {opPut("a", "1"), "0"}, {opFlush, "0"}, {opPut("b", "2"), "0"}, {opRepair, "1"}, {opCheck, "1"}, {opClose, "0"}, {opCheck, "0 0"}}
	hurt := append(slices.Clone(store), said{opPoke("3.sst", 9, "x"), "0"}, said{opCheck, "0 3"}, said{opOpen, "6"})
	expectSession(t, "a table is hurt", emptyDir(), append(slices.Clone(hurt), said{opRepair, "0"}, said{opCheck, "0 0"}, said{opDump, "0 log 2 next 4 last 2;table 1 level 1 size 192;"},
		said{opOpen, "0"}, said{opAll, "0 b=2"}, said{opPut("c", "3"), "0"}, said{opAll, "0 b=2 c=3"})...)
	o := expectSession(t, "a repair that dies", emptyDir(), append(slices.Clone(hurt), said{opFuel(6), "0"}, said{opRepair, "8"}, said{opRepair, "8"}, said{opCheck, "8"}, said{opFuel(-1), "8"}, said{opList, "8"})...)
	expectCode(t, "a repair that dies", o, impl.RunDead, impl.ModeDead)
	if names(o.Fs) != "3.sst 4.log CURRENT MANIFEST-2 repair.tab repair.tmp" || fileOf(o.Fs, "repair.tmp").Synced != 64 {
		t.Errorf("it leaves %s", show(o.Fs))
	}
	o = expectSession(t, "and again, later", o.Fs, said{opFuel(-1), "0"}, said{opCheck, "0 6"}, said{opOpen, "6"}, said{opFuel(10), "0"}, said{opRepair, "8"}, said{opCrash(), "0"}, said{opCheck, "0 6"}, said{opOpen, "6"},
		said{opRepair, "0"}, said{opCheck, "0 0"}, said{opOpen, "0"}, said{opAll, "0 b=2"})
	if names(o.Fs) != "1.sst 4.log CURRENT MANIFEST-5 lost/3.sst lost/4.log lost/CURRENT lost/MANIFEST-2" {
		t.Errorf("again, later: it leaves %s", names(o.Fs))
	}
	fs := withFile(impl.Exec(emptyDir(), ops(opOpen, opPut("a", "1"), opClose)).Fs, long(101), "x")
	o = expectSession(t, "a name that is too long", fs, said{opRepair, "2"}, said{opRepair, "2"}, said{opOpen, "0"}, said{opAll, "0 a=1"})
	expectCode(t, "a name that is too long", o, impl.RunOk, impl.ModeOpen)
	o = expectSession(t, "no room", withQuota(withoutFile(fs, long(101)), 300), said{opRepair, "3"}, said{opCheck, "0 0"}, said{opRepair, "3"}, said{opOpen, "3"})
	expectCode(t, "no room", o, impl.RunFull, impl.ModeClosed)
}
