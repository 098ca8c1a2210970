package tests

import (
	"slices"
	"strconv"
	"strings"
	"testing"

	"loop.example/s01733/impl"
)

func TestRunOfNoOperations(t *testing.T) {
	expectShown(t, "no quota", "quota 0", "mode 0 files 0 bytes 0")
	expectShown(t, "a newline", "quota 0\n", "mode 0 files 0 bytes 0")
	expectShown(t, "all the quota", "quota 1048576\n", "mode 0 files 0 bytes 0")
}

func TestRunEndsInEachMode(t *testing.T) {
	expectShown(t, "open", "quota 74\nopen", "0", "mode 1 files 3 bytes 74")
	expectShown(t, "closed", "quota 74\nopen\nclose\n", "0", "0", "mode 0 files 3 bytes 74")
	expectShown(t, "dead at once", "quota 74\nfuel 0\nopen\n", "0", "8", "mode 2 files 0 bytes 0")
	expectShown(t, "dead in the midst", "quota 74\nfuel 3\nopen\nlist\n", "0", "8", "8", "mode 2 files 2 bytes 64")
	expectShown(t, "dead and gone", "quota 74\nfuel 3\nopen\ncrash 0 9\nlist\n", "0", "8", "0", "0 1.log 0 0;MANIFEST-2 9 9;", "mode 0 files 2 bytes 9")
	expectShown(t, "no byte to spare", "quota 73\nopen\n", "3", "mode 0 files 0 bytes 0")
	expectShown(t, "no room at all", "quota 0\nopen\nlist\n", "3", "0", "mode 0 files 0 bytes 0")
	expectShown(t, "fuel for ever", "quota 74\nfuel -1\nopen\n", "0", "0", "mode 1 files 3 bytes 74")
}

func TestRunShowsPairs(t *testing.T) {
	expectShown(t, "pairs", scriptOf("quota 9999", "open", "scan _ _", "put b _", "scan _ _", "put a 1", "scan _ _", "put c =", "put d=e f=g", "scan _ _", "scan b d", "scan b _", "scan _ b", "scan x _", "get b", "get a", "get c", "get d=e", "get d", "scan d=e d=f"),
		"0", "0", "0", "0 b=", "0", "0 a=1 b=", "0", "0", "0 a=1 b= c== d=e=f=g", "0 b= c==", "0 b= c== d=e=f=g", "0 a=1", "0", "0", "0 1", "0 =", "0 f=g", "5", "0 d=e=f=g", "mode 1 files 3 bytes 330")
	expectShown(t, "a batch", scriptOf("quota 9999", "open", "batch a=1 b=2=3 c= _=_ =x", "scan _ _", "batch a=1 b=2=3 c= _=_", "batch a __ c=4", "scan _ _", "flush", "scan _ _", "del b", "compact 0", "scan _ _"),
		"0", "2", "0", "0", "0", "0 _=_ b=2=3 c=4", "0", "0 _=_ b=2=3 c=4", "0", "0", "0 _=_ c=4", "mode 1 files 4 bytes 522")
	expectShown(t, "what looks like something else", scriptOf("quota 9999", "open", "put ; ;", "put 0 mode", "get ;", "get 0", "scan _ _"), "0", "0", "0", "0 ;", "0 mode", "0 0=mode ;=;", "mode 1 files 3 bytes 202")
}

// A Val of several lines is shown in one.
func TestRunShowsLists(t *testing.T) {
	expectShown(t, "nothing", scriptOf("quota 9999", "list", "dump", "check"), "0", "0 no CURRENT;", "0 1", "mode 0 files 0 bytes 0")
	expectShown(t, "a store", scriptOf("quota 9999", "open", "put a 1", "flush", "put b 2", "flush", "put c 3", "dump", "list", "check", "close", "check", "list"),
		"0", "0", "0", "0", "0", "0", "0 log 6 next 7 last 2;table 3 level 0 size 192;table 5 level 0 size 192;", "0 3.sst 192 192;5.sst 192 192;6.log 64 0;CURRENT 10 10;MANIFEST-2 192 192;", "1", "0", "0 0",
		"0 3.sst 192 192;5.sst 192 192;6.log 64 64;CURRENT 10 10;MANIFEST-2 192 192;", "mode 0 files 5 bytes 650")
}

// Lines that are read and not as chapter 5 describes them are answered RunBad.
func TestRunOfWrongOperations(t *testing.T) {
	lines := []string{
		"put _ v", "del _", "get _", "compact -1", "compact 3", "compact 99999999", "put " + long(1001) + " v", "put k " + long(4001), "del " + long(1001), "get " + long(1001),
		"scan " + long(1001) + " _", "scan _ " + long(1001), "batch =v", "batch a=1 =", "batch " + long(1001), "batch k=" + long(4001), "batch" + strings.Repeat(" a", 1001), "crash" + strings.Repeat(" 1", 201),
	}
	for _, line := range lines {
		expectShown(t, "closed: "+brief(line), scriptOf("quota 9999", line), "2", "mode 0 files 0 bytes 0")
		expectShown(t, "open: "+brief(line), scriptOf("quota 9999", "open", "put a 1", line, "scan _ _"), "0", "0", "2", "0 a=1", "mode 1 files 3 bytes 138")
		expectShown(t, "dead: "+brief(line), scriptOf("quota 9999", "fuel 0", "open", line, "scan _ _"), "0", "8", "8", "8", "mode 2 files 0 bytes 0")
	}
	expectShown(t, "at the edges", scriptOf("quota 1048576", "open", "put "+long(1000)+" "+long(4000), "get "+long(1000), "scan "+long(1000)+" "+long(1000), "batch"+strings.Repeat(" a", 999)+" b=", "crash"+strings.Repeat(" 99999999", 200), "open", "scan l _", "get b", "compact 2"),
		"0", "0", "0 "+long(4000), "0", "0", "0", "0", "0", "0", "0", "mode 1 files 4 bytes 7370")
	expectShown(t, "pokes", scriptOf("quota 9999", "open", "poke _ 0 x", "poke nothing 0 _", "poke CURRENT -1 x", "poke CURRENT 10 x", "poke CURRENT 10 _", "poke CURRENT 11 _", "poke CURRENT 8 -2", "check", "poke CURRENT 9 3", "dump", "close", "open", "check"),
		"0", "5", "5", "2", "2", "0", "2", "0", "1", "0", "0 bad CURRENT;", "0", "6", "0 1", "mode 0 files 3 bytes 74")
	expectShown(t, "in a mode that does not fit", scriptOf("quota 9999", "put a 1", "del a", "batch a", "sync", "get a", "scan _ _", "flush", "compact 0", "close", "open", "open", "check", "repair"), "1", "1", "1", "1", "1", "1", "1", "1", "1", "0", "1", "1", "1", "mode 1 files 3 bytes 74")
}

func TestRunOfDeathsAndRepairs(t *testing.T) {
	expectShown(t, "puts that die, a crash", scriptOf("quota 9999", "open", "put a 1", "sync", "put b 2", "fuel 1", "put c 3", "put d 4", "get a", "crash 63", "open", "scan _ _", "put c 5", "crash", "open", "scan _ _"),
		"0", "0", "0", "0", "0", "0", "8", "8", "0", "0", "0 a=1", "0", "0", "0", "0 a=1", "mode 1 files 4 bytes 266")
	expectShown(t, "damage, a repair that dies, and one that does not", scriptOf("quota 9999", "open", "put a 1", "flush", "put b 2", "close", "poke 3.sst 0 X", "check", "open", "fuel 4", "repair", "list", "crash", "check", "open", "repair", "check", "list", "dump", "open", "scan _ _"),
		"0", "0", "0", "0", "0", "0", "0 3", "6", "0", "8", "8", "0", "0 6", "6", "0", "0 0",
		"0 1.sst 192 192;2.log 0 0;CURRENT 10 10;MANIFEST-3 64 64;lost/3.sst 192 192;lost/4.log 64 64;lost/CURRENT 10 10;lost/MANIFEST-2 128 128;", "0 log 2 next 4 last 2;table 1 level 1 size 192;", "0", "0 b=2", "mode 1 files 8 bytes 660")
	expectShown(t, "a repair of nothing", scriptOf("quota 9999", "repair", "list", "check", "repair", "list"),
		"0", "0 2.log 0 0;CURRENT 10 10;MANIFEST-3 64 64;", "0 0", "0", "0 2.log 0 0;CURRENT 10 10;MANIFEST-3 64 64;lost/2.log 0 0;lost/CURRENT 10 10;lost/MANIFEST-3 64 64;", "mode 0 files 6 bytes 148")
	expectShown(t, "a repair without room", scriptOf("quota 74", "open", "close", "repair", "check", "open"), "0", "0", "3", "0 0", "3", "mode 0 files 3 bytes 74")
}

// whole has every kind of line, damage, deaths, crashes and repairs.
func whole() []impl.Op {
	return slices.Concat(life(), ops(opList, opDump, opAll, opGet("b"), opScan("a", "c"), opCheck, opClose, opCheck, opPoke("CURRENT", 0, "X"), opCheck, opDump, opOpen, opFuel(9), opRepair, opRepair, opCrash(1, 2, 3), opList, opCheck, opRepair, opCheck, opOpen, opAll,
		opBatch(put("x", 0, "1"), put("y", 0, "a=b"), del("b", 0)), opFuel(4), opFlush, opAll, opCrash(), opOpen, opAll, opPut("z", ""), opCrash(0, 0, 0, 0, 63), opOpen, opAll, opPoke("none", 0, ""), opCompact(0), opCompact(7), opRepair, opClose, opRepair, opOpen, opAll, opList))
}

// A list is told with Run of each of its beginnings, so that every line is once
// the last one and the end is shown behind each.
func TestPromise17EveryBeginning(t *testing.T) {
	list := whole()
	seen := map[int]int{}
	for n := range len(list) + 1 {
		o := expectRun(t, "the first "+strconv.Itoa(n)+" operations", 1048576, list[:n]...)
		seen[o.Mode]++
	}
	if seen[impl.ModeClosed] == 0 || seen[impl.ModeOpen] == 0 || seen[impl.ModeDead] == 0 {
		t.Errorf("the modes at the end are %v", seen)
	}
	kinds := map[int]int{}
	for _, op := range list {
		kinds[op.Kind]++
	}
	if len(kinds) != impl.OpList {
		t.Errorf("%d kinds of operations came up", len(kinds))
	}
}

func TestPromise17EveryQuota(t *testing.T) {
	list := whole()
	for quota := 0; quota < 4000; quota += 37 {
		expectRun(t, "quota "+strconv.Itoa(quota), quota, list...)
	}
}

func TestPromise17DeadAtEveryStep(t *testing.T) {
	list := life()
	deaths := 0
	for i := range list {
		for n := 0; ; n++ {
			mortal := slices.Concat(list[:i], ops(opFuel(n), list[i]))
			o := expectRun(t, "dead after "+strconv.Itoa(n)+" steps of operation "+strconv.Itoa(i), 1048576, slices.Concat(mortal, ops(opList, opCrash(0, 65, 65, 99999999), opOpen, opAll, opList))...)
			if o.Answers[i+1].Code != impl.RunDead {
				break
			}
			deaths++
		}
	}
	if deaths < 150 {
		t.Errorf("only %d deaths", deaths)
	}
}

// printable is an operation with texts and numbers that a line can say.
func printable(op impl.Op) impl.Op {
	ink := func(text string) string {
		b := []byte(text)
		for i := range b {
			b[i] = '!' + b[i]%94
		}
		return string(b)
	}
	if op.Kind == impl.OpPoke {
		op.Val = ink(op.Val)
	}
	if op.Kind == impl.OpScan && op.Key == "\xff" {
		op.Key = "~"
	}
	if op.Kind == impl.OpScan && op.Val == "\xff" {
		op.Val = "~"
	}
	op.Keep = slices.Clone(op.Keep)
	for i := range op.Keep {
		op.Keep[i] = min(op.Keep[i], 99999999)
	}
	return op
}

// Sessions of the dice, held against Exec and against the document's chapters
// told once more.
func TestPromise17BySessions(t *testing.T) {
	d := &dice{state: 17}
	kinds, modes := map[string]int{}, map[int]int{}
	for walk := range 1500 {
		quota := []int{impl.MaxTotal, 200 + d.below(3000), d.below(300)}[min(d.below(3), d.below(3))]
		p := &plainStore{fs: dir(quota, -1)}
		list, want := []impl.Op{}, impl.Outcome{}
		for size := 10 + d.below(60); len(list) < size; {
			op := printable(d.op(p))
			if !written(op) {
				continue
			}
			list = append(list, op)
			want.Answers = append(want.Answers, p.answer(op))
			kinds[strconv.Itoa(op.Kind)+" "+strconv.Itoa(want.Answers[len(want.Answers)-1].Code)]++
		}
		want.Fs, want.Mode = p.fs, p.mode
		text := scriptText(quota, list...)
		if len(text) > impl.MaxScript {
			continue
		}
		modes[want.Mode]++
		got := impl.Run(text)
		if got != shown(want) || got != shown(impl.Exec(dir(quota, -1), list)) {
			t.Fatalf("walk %d: Run of\n%s\nshows\n%s\nwant\n%s", walk, text, got, shown(want))
		}
	}
	for kind := range impl.OpList {
		for _, code := range []int{impl.RunOk, impl.RunDead} {
			if n := kinds[strconv.Itoa(kind+1)+" "+strconv.Itoa(code)]; n < 5 {
				t.Errorf("kind %d came up with code %d only %d times", kind+1, code, n)
			}
		}
	}
	if min(modes[impl.ModeClosed], modes[impl.ModeOpen], modes[impl.ModeDead]) < 20 {
		t.Errorf("the modes at the end are %v", modes)
	}
}

// A script of the dice is shown, or the first line that is bad is named.
func TestPromise17OfAnyScripts(t *testing.T) {
	d := &dice{state: 1717}
	seen := map[bool]int{}
	for range 4000 {
		text := d.anyScript()
		script, code := plainParse(text)
		want := "bad " + strconv.Itoa(code) + "\n"
		if code == 0 {
			want = shown(plainExec(dir(script.Quota, -1), script.Ops))
		}
		if got := impl.Run(text); got != want {
			t.Fatalf("Run of %q shows\n%s\nwant\n%s", text, got, want)
		}
		seen[code == 0]++
	}
	if seen[true] < 500 || seen[false] < 500 {
		t.Errorf("%d scripts were good, %d bad", seen[true], seen[false])
	}
}

func TestRunOfManyOperations(t *testing.T) {
	text := "quota 1048576\nopen\n" + strings.Repeat("put a 1\ndel b\n", 999) + "scan _ _\n"
	lines := strings.Split(impl.Run(text), "\n")
	if len(lines) != 2002 || lines[1999] != "0 a=1" || lines[2000] != "mode 1 files 3 bytes "+strconv.Itoa(74+1998*64) || lines[2001] != "" {
		t.Errorf("%d lines, at the end %q", len(lines), lines[max(0, len(lines)-3):])
	}
	for i, line := range lines[:1999] {
		if line != "0" {
			t.Fatalf("line %d is %q", i, line)
		}
	}
	expectBadScript(t, "one more", text+"list\n", 2003)
}

func TestRunsBesideEachOther(t *testing.T) {
	texts := []string{scriptText(1048576, whole()...), scriptText(800, whole()...), "quota 5\nlook\n", "quota 99\nopen\nput a 1\nlist\n"}
	want := []string{}
	for _, text := range texts {
		want = append(want, impl.Run(text))
	}
	same := make(chan bool)
	for i, text := range texts {
		go func() {
			ok := true
			for range 10 {
				ok = ok && impl.Run(text) == want[i]
			}
			same <- ok
		}()
	}
	for range texts {
		if !<-same {
			t.Errorf("a run beside others shows something else")
		}
	}
}
