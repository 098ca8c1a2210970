package tests

import (
	"slices"
	"strconv"
	"strings"
	"testing"

	"loop.example/s01733/impl"
)

// premised is the directory with the least quota of promise 11: at least 12
// times its bytes, and at least 8192.
func premised(fs impl.FS) impl.FS {
	return withQuota(withFuel(fs, -1), max(12*totalOf(fs), 8192))
}

// everyEntry has all entries in whole frames, wherever a page begins one.
func everyEntry(fs impl.FS) []impl.Entry {
	all := []impl.Entry{}
	for _, f := range fs.Files {
		for page := range len(f.Data)/64 + 1 {
			es, _ := impl.DecodeEntries(impl.ReadFrame(f.Data, page).Payload)
			all = append(all, es...)
		}
	}
	return all
}

// expectInFrames is promise 12.
func expectInFrames(t *testing.T, what string, fs impl.FS) {
	t.Helper()
	all := everyEntry(fs)
	for _, e := range impl.View(fs).Entries {
		if !slices.Contains(all, e) {
			t.Errorf("%s: %s stands in no frame", what, tellEntries(entries(e)))
		}
	}
}

// isArchiveNameOf is whether a file of that name may have gone to the archive
// under the other.
func isArchiveNameOf(to string, name string) bool {
	rest, begins := strings.CutPrefix(to, "lost/"+name)
	n, err := strconv.Atoi(strings.TrimPrefix(rest, "."))
	return begins && (rest == "" || err == nil && n >= 1 && rest == "."+strconv.Itoa(n))
}

// expectKept is promise 13: every file is there, in the archive.
func expectKept(t *testing.T, what string, fs impl.FS, after impl.FS) {
	t.Helper()
	count := func(fs impl.FS, data string, ok func(name string) bool) int {
		n := 0
		for _, f := range fs.Files {
			if f.Data == data && ok(f.Name) {
				n++
			}
		}
		return n
	}
	for _, f := range fs.Files {
		there := fileOf(after, f.Name) == file(f.Name, f.Data, len(f.Data))
		if !inArchive(f.Name) {
			there = count(after, f.Data, func(name string) bool { return isArchiveNameOf(name, f.Name) }) > 0
		}
		// Two files with the same Data must not have become one.
		before := count(fs, f.Data, func(string) bool { return true })
		if !there || count(after, f.Data, inArchive) < before {
			t.Errorf("%s: %s is not in the archive: %s", what, f.Name, names(after))
		}
	}
}

// nextSeq is the Seq that a new entry gets, and what a scan finds beside it.
func nextSeq(t *testing.T, what string, fs impl.FS) (int, string) {
	t.Helper()
	o := impl.Exec(withQuota(fs, impl.MaxTotal), ops(opOpen, opAll, opPut("next", "1"), opClose))
	if o.Answers[0].Code != impl.RunOk || o.Answers[2].Code != impl.RunOk {
		t.Errorf("%s: opening is answered %d, a put %d", what, o.Answers[0].Code, o.Answers[2].Code)
		return 0, ""
	}
	for _, e := range everyEntry(o.Fs) {
		if e.Key == "next" {
			return e.Seq, tell(o.Answers[1])
		}
	}
	t.Errorf("%s: the new entry is nowhere", what)
	return 0, ""
}

// expectSaved is promises 11, 12, 13 and 16 for one directory under their
// premises.
func expectSaved(t *testing.T, what string, fs impl.FS) impl.FS {
	t.Helper()
	fs = premised(fs)
	v := view(t, what, fs)
	got, code := mended(t, what, fs)
	if code != impl.RunOk || pairsAt(got) != pairsIn(v) {
		t.Errorf("%s: code %d, it finds %s, want %s", what, code, pairsAt(got), pairsIn(v))
		return got
	}
	expectCheck(t, what, got, impl.CheckOk)
	expectInFrames(t, what, fs)
	expectKept(t, what, fs, got)
	next, scan := nextSeq(t, what, got)
	if scan != pairsIn(v) {
		t.Errorf("%s: a scan finds %s, want %s", what, scan, pairsIn(v))
	}
	for _, e := range v.Entries {
		if next <= e.Seq {
			t.Errorf("%s: the next Seq is %d, and %d was saved", what, next, e.Seq)
		}
	}
	expectSavedAgain(t, what, got)
	return got
}

// expectSavedAgain is promise 16 for what a repair gave.
func expectSavedAgain(t *testing.T, what string, fs impl.FS) {
	t.Helper()
	fs = withQuota(fs, impl.MaxTotal)
	again, code := impl.Repair(fs)
	if code != impl.RunOk || pairsAt(again) != pairsAt(fs) {
		t.Errorf("%s: the second repair has code %d and finds %s, want %s", what, code, pairsAt(again), pairsAt(fs))
	}
	expectCheck(t, what+", the second time", again, impl.CheckOk)
	expectKept(t, what+", the second time", fs, again)
}

// outskirts has directories at the edges of promise 11.
func outskirts() []sample {
	list := []sample{
		{"nothing", emptyDir()},
		{"the archive alone", roomy("lost/", "x", "lost/1.log", logText(entries(put("a", 1, "1"))))},
		{"empty files", roomy("1.log", "", "1.sst", "", "CURRENT", "", "CURRENT.tmp", "", "MANIFEST-1", "", "a", "")},
		{"files that hold no frame", roomy("1.log", "x", "CURRENT", "MANIFEST-9", "a", long(5000))},
		{"deletions alone", roomy("a", logText(entries(del("a", 4), del("b", 9))))},
		{"a wreck", impl.FsCrash(wreck(), nil)},
		{"a wreck, not synced", wreck()},
		{"names of 100 bytes", roomy(long(100), logText(entries(put("a", 1, "1"))), long(99)+"l", "x", "lost/"+long(100), "y", "lost/"+long(115), "z")},
		{"names that are taken", roomy("a", "0", "a.1", "1", "b", "2", "lost/a", "3", "lost/a.1", "4", "lost/b", "5", "lost/b.2", "6")},
		{"a key of 1000 bytes", roomy("a", logText(entries(put(long(1000), 1, ""))))},
		{"a value of 4000 bytes", roomy("a", blockText(entries(put("a", 1, long(4000)))))},
		{"house", house()}, {"tidy", tidy()},
	}
	many := []impl.Entry{}
	for i := range 4000 {
		many = append(many, put(strconv.Itoa(10000+i), 1000+i, ""))
	}
	log := ""
	for batch := range slices.Chunk(many, 1000) {
		log += logText(batch)
	}
	list = append(list, sample{"4000 entries", roomy("1.log", log)})
	list = append(list, sample{"65536 bytes", roomy("1.log", log, "x", strings.Repeat("x", 65536-len(log)))})
	single := ""
	for i := range 1024 {
		single += logText(entries(put(string([]byte{byte(i / 32), byte(i % 32)})+long(40), i+1, "")))
	}
	list = append(list, sample{"1024 batches of one entry", roomy("a", single)})
	crowd := emptyDir()
	for i := range 95 {
		crowd = withFile(crowd, "a"+strconv.Itoa(i), logText(entries(put("k"+strconv.Itoa(i), i+1, "v"))))
		crowd = withFile(crowd, "lost/a"+strconv.Itoa(i), "x")
	}
	return append(list, sample{"190 files", crowd})
}

func TestPromises11To13AndPromise16AtTheEdges(t *testing.T) {
	for _, s := range outskirts() {
		if totalOf(s.fs) > 65536 || len(s.fs.Files) > 190 {
			t.Fatalf("%s is outside the promise: %d bytes", s.what, totalOf(s.fs))
		}
		expectSaved(t, s.what, s.fs)
	}
}

// hurtEach is a store hurt in each of its files: gone, emptied, cut, turned at
// many places, under another name, with bytes behind.
func hurtEach(fs impl.FS, each func(what string, fs impl.FS)) {
	for _, f := range fs.Files {
		each(f.Name+" gone", withoutFile(fs, f.Name))
		each(f.Name+" under another name", withFile(withoutFile(fs, f.Name), "x", f.Data))
		each(f.Name+" twice", withFile(fs, "0", f.Data))
		each(f.Name+" in the archive", withFile(withoutFile(fs, f.Name), "lost/"+f.Name, f.Data))
		each(f.Name+" with a byte behind", withFile(fs, f.Name, f.Data+"x"))
		each(f.Name+" with a byte ahead", withFile(fs, f.Name, "x"+f.Data))
		for at := 0; at < len(f.Data); at += 11 {
			each(f.Name+" cut at "+strconv.Itoa(at), withFile(fs, f.Name, f.Data[:at]))
			each(f.Name+" turned at "+strconv.Itoa(at), withFile(fs, f.Name, withByte(f.Data, at, f.Data[at]^4)))
		}
	}
}

func TestPromises11To13AndPromise16OfHurtStores(t *testing.T) {
	list := []sample{{"house", house()}}
	for _, i := range []int{5, 16, 25, len(life()) - 1} {
		list = append(list, sample{"life up to " + strconv.Itoa(i), impl.Exec(emptyDir(), then(life()[:i+1], opSync, opCrash())).Fs})
	}
	seen := 0
	for _, s := range list {
		whole := pairsAt(s.fs)
		hurtEach(s.fs, func(what string, fs impl.FS) {
			if pairsAt(expectSaved(t, s.what+", "+what, fs)) != whole {
				seen++
			}
		})
	}
	if seen < 50 {
		t.Errorf("only %d hurts took something: the test misses its purpose", seen)
	}
}

func TestPromises11To13AndPromise16OfAnyDirectory(t *testing.T) {
	d := &dice{state: 111316}
	saved := 0
	for walk := range 3000 {
		fs := d.unsynced(d.anyDirectory())
		if got := expectSaved(t, "walk "+strconv.Itoa(walk), fs); pairsAt(got) != "0" {
			saved++
		}
		if t.Failed() {
			t.Fatalf("walk %d: %s", walk, show(fs))
		}
	}
	if saved < 1500 {
		t.Errorf("only %d repairs saved something: the walks miss their purpose", saved)
	}
}

// mortal is a directory under the premises of promise 14, what a repair of it
// finds, and how often the runs so far have died between their last two steps.
type mortal struct {
	what  string
	fs    impl.FS
	pairs string
	late  int
}

// mortalOf leaves room for one death between the last two steps, which takes as
// many bytes once more: 12 times the bytes and 8192 beside.
func mortalOf(s sample) mortal {
	fs := impl.FsCrash(s.fs, slices.Repeat([]int{maxInt}, len(s.fs.Files)))
	fs.Quota = 12*totalOf(fs) + 8192
	return mortal{what: s.what, fs: fs, pairs: pairsIn(impl.View(fs))}
}

// dies runs a repair that dies after n steps, and a crash behind it; false if
// it does not die.
func (m mortal) dies(now impl.FS, n int, keepOf func(fs impl.FS) []int) (impl.FS, mortal, bool) {
	dead, code := impl.Repair(withFuel(now, n))
	if code != impl.RunDead {
		return dead, m, false
	}
	if _, next := impl.Repair(withFuel(now, n+1)); next == impl.RunOk {
		m.late++
	}
	m.what += ", dead after " + strconv.Itoa(n)
	return impl.FsCrash(dead, keepOf(dead)), m, true
}

// expectSurvives is promise 14 for a run that is not cut short.
func (m mortal) expectSurvives(t *testing.T, now impl.FS) {
	t.Helper()
	got, code := impl.Repair(withFuel(now, -1))
	if code == impl.RunFull && m.late > 1 {
		return
	}
	if code != impl.RunOk || pairsAt(got) != m.pairs {
		t.Fatalf("%s: code %d, it finds %s, want %s", m.what, code, pairsAt(got), m.pairs)
	}
	expectCheck(t, m.what, got, impl.CheckOk)
	expectKept(t, m.what, m.fs, got)
}

func mortals() []mortal {
	list := []mortal{}
	for _, s := range outskirts() {
		if totalOf(s.fs) < 8000 && len(s.fs.Files) < 20 {
			list = append(list, mortalOf(s))
		}
	}
	return append(list, mortalOf(sample{"life", impl.Exec(emptyDir(), then(life(), opCrash())).Fs}))
}

func TestPromise14DeadAtEveryStep(t *testing.T) {
	seen := 0
	for _, m := range mortals() {
		for n := 0; ; n++ {
			dead, code := impl.Repair(withFuel(m.fs, n))
			if code != impl.RunDead {
				break
			}
			for _, keep := range keepsOf(dead) {
				now, after, _ := m.dies(m.fs, n, func(impl.FS) []int { return keep })
				after.expectSurvives(t, now)
				seen++
			}
		}
	}
	if seen < 500 {
		t.Errorf("only %d deaths: the test misses its purpose", seen)
	}
}

func TestPromise14DeadTwice(t *testing.T) {
	seen := 0
	for i, m := range mortals() {
		for n := 0; ; n++ {
			keepOf := func(fs impl.FS) []int { return fewKeeps(fs)[(i+n)%3] }
			once, first, died := m.dies(m.fs, n, keepOf)
			if !died {
				break
			}
			for k := 0; ; k++ {
				keepOf := func(fs impl.FS) []int { return fewKeeps(fs)[(i+n+k)%3] }
				twice, second, died := first.dies(once, k, keepOf)
				if !died {
					break
				}
				second.expectSurvives(t, twice)
				seen++
			}
		}
	}
	if seen < 3000 {
		t.Errorf("only %d deaths: the test misses its purpose", seen)
	}
}

func TestPromise14OfAnyDirectory(t *testing.T) {
	d := &dice{state: 14}
	deaths, late := 0, 0
	for walk := range 3000 {
		m := mortalOf(sample{"walk " + strconv.Itoa(walk), d.anyDirectory()})
		now := m.fs
		for range 1 + d.below(8) {
			if after, more, died := m.dies(now, d.below(30), d.keeps); died {
				now, m = after, more
				deaths++
			}
		}
		late += m.late
		m.expectSurvives(t, now)
	}
	if deaths < 5000 || late < 100 {
		t.Errorf("%d deaths, %d of them between the last two steps: the walks miss their purpose", deaths, late)
	}
}

// expectLeft is promise 15 for a directory that a session left.
func expectLeft(t *testing.T, what string, fs impl.FS) {
	t.Helper()
	pairs := pairsAt(fs)
	if strings.HasPrefix(pairs, "code") {
		t.Fatalf("%s: Peek has %s", what, pairs)
	}
	o := impl.Exec(fs, ops(opOpen, opClose))
	if o.Answers[0].Code == impl.RunOk && o.Answers[1].Code == impl.RunOk {
		expectCheck(t, what+", opened", o.Fs, impl.CheckOk)
		if pairsAt(o.Fs) != pairs {
			t.Errorf("%s, opened: it finds %s, want %s", what, pairsAt(o.Fs), pairs)
		}
	}
	got, code := impl.Repair(premised(fs))
	if code != impl.RunOk || pairsAt(got) != pairs {
		t.Errorf("%s, mended: code %d, it finds %s, want %s", what, code, pairsAt(got), pairs)
	}
	expectCheck(t, what+", mended", got, impl.CheckOk)
	expectKept(t, what+", mended", fs, got)
}

func TestPromise15BehindEveryOperation(t *testing.T) {
	for i := range life() {
		o := impl.Exec(emptyDir(), life()[:i+1])
		what := "behind operation " + strconv.Itoa(i)
		for _, keep := range keepsOf(o.Fs) {
			expectLeft(t, what+", keep"+tellInts(keep), impl.FsCrash(o.Fs, keep))
		}
		if closed := impl.Exec(emptyDir(), then(life()[:i+1], opClose)); closed.Mode == impl.ModeClosed {
			expectLeft(t, what+", closed", closed.Fs)
		}
	}
}

func TestPromise15DeadAtEveryStep(t *testing.T) {
	seen := 0
	for _, quota := range []int{impl.MaxTotal, 1200, 900} {
		deaths(t, dir(quota, -1), life(), func(what string, o impl.Outcome, h *history) {
			seen++
			for _, keep := range fewKeeps(o.Fs) {
				expectLeft(t, what, impl.FsCrash(o.Fs, keep))
			}
		})
	}
	if seen < 300 {
		t.Errorf("only %d deaths: the test misses its purpose", seen)
	}
}

func TestPromise15BySessions(t *testing.T) {
	d := &dice{state: 15}
	pairs := 0
	for walk := range 1500 {
		fs := d.store()
		expectLeft(t, "walk "+strconv.Itoa(walk), fs)
		if pairsAt(fs) != "0" {
			pairs++
		}
		if t.Failed() {
			t.Fatalf("walk %d: %s", walk, show(fs))
		}
	}
	if pairs < 600 {
		t.Errorf("only %d sessions left something: the walks miss their purpose", pairs)
	}
}

// A repair behind every operation changes nothing that a session can see.
func TestPromise15SessionsGoOnBehindARepair(t *testing.T) {
	list := life()
	for i := range list {
		h := &history{}
		more := slices.Concat(list[:i+1], ops(opClose, opRepair, opCheck, opOpen), withLooks(list[i+1:]), ops(opClose, opRepair, opOpen, opAll))
		o := h.followAll(t, "a repair behind operation "+strconv.Itoa(i), emptyDir(), more)
		for k, op := range more {
			if op.Kind == impl.OpRepair && tell(o.Answers[k]) != "0" || op.Kind == impl.OpCheck && tell(o.Answers[k]) != "0 0" {
				t.Errorf("behind operation %d: answer %d, to kind %d, is %s", i, k, op.Kind, tell(o.Answers[k]))
			}
		}
	}
}
