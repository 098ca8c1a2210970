package tests

import (
	"maps"
	"slices"
	"strconv"
	"strings"
	"testing"

	"loop.example/s01733/impl"
)

// history is what the answers of a session say of its batches: promises 8, 9
// and 10 without a look at a file.
type history struct {
	batches [][]impl.Entry // those that were answered RunOk, in order
	safe    int            // how many of them no crash may take
	crashed bool           // it is not known yet which of them are left
	lost    int            // how many crashes took some
	refused int            // how many operations were answered RunFull
}

func (h *history) copy() *history {
	c := *h
	c.batches = slices.Clone(h.batches)
	return &c
}

// mapOf is the finite map of the first n batches.
func (h *history) mapOf(n int) map[string]string {
	m := map[string]string{}
	for _, b := range h.batches[:n] {
		for _, e := range b {
			if e.Kind == impl.KindPut {
				m[e.Key] = e.Val
			} else {
				delete(m, e.Key)
			}
		}
	}
	return m
}

func tellMap(m map[string]string, lo string, hi string) string {
	a := impl.Answer{}
	for _, key := range slices.Sorted(maps.Keys(m)) {
		if key >= lo && (hi == "" || key < hi) {
			a.Pairs = append(a.Pairs, impl.Pair{Key: key, Val: m[key]})
		}
	}
	return tell(a)
}

func batchOf(op impl.Op) []impl.Entry {
	switch op.Kind {
	case impl.OpPut:
		return []impl.Entry{{Key: op.Key, Kind: impl.KindPut, Val: op.Val}}
	case impl.OpDel:
		return []impl.Entry{{Key: op.Key}}
	}
	return op.Batch
}

// recover is what the first scan behind a crash and an opening says: which
// batches are left. The fault is empty if they are a first part with all that
// were safe.
func (h *history) recover(scan string) string {
	for n := len(h.batches); n >= h.safe; n-- {
		if tellMap(h.mapOf(n), "", "") == scan {
			if n < len(h.batches) {
				h.lost++
			}
			h.batches, h.safe, h.crashed = h.batches[:n:n], n, false
			return ""
		}
	}
	return "after a crash of " + strconv.Itoa(len(h.batches)) + " batches with " + strconv.Itoa(h.safe) + " safe it finds " + scan
}

// look is for an operation that was answered RunOk or RunNone.
func (h *history) look(op impl.Op, a impl.Answer) string {
	m := h.mapOf(len(h.batches))
	want := tellMap(m, op.Key, op.Val)
	if op.Kind == impl.OpGet {
		want = strconv.Itoa(impl.RunNone)
		if val, there := m[op.Key]; there {
			want = tell(impl.Answer{Val: val})
		}
	}
	if tell(a) != want {
		return "kind " + strconv.Itoa(op.Kind) + " " + brief(op.Key) + " is answered " + tell(a) + ", want " + want
	}
	return ""
}

// follow takes one operation and its answer, and gives what is wrong with it.
// After a crash the first look must be a scan of all.
func (h *history) follow(op impl.Op, a impl.Answer) string {
	if a.Code == impl.RunDamaged {
		return "kind " + strconv.Itoa(op.Kind) + " finds damage"
	}
	if a.Code == impl.RunFull {
		h.refused++
	}
	if a.Code != impl.RunOk && a.Code != impl.RunNone {
		return ""
	}
	switch op.Kind {
	case impl.OpPut, impl.OpDel, impl.OpBatch:
		h.batches = append(h.batches, batchOf(op))
	case impl.OpCrash:
		h.crashed = true
	case impl.OpSync, impl.OpFlush, impl.OpClose, impl.OpOpen:
		if !h.crashed {
			h.safe = len(h.batches)
		}
	case impl.OpGet, impl.OpScan:
		if h.crashed {
			return h.recover(tell(a))
		}
		return h.look(op, a)
	}
	return ""
}

func (h *history) followAll(t *testing.T, what string, fs impl.FS, list []impl.Op) impl.Outcome {
	t.Helper()
	o := impl.Exec(fs, list)
	if len(o.Answers) != len(list) {
		t.Fatalf("%s: %d answers", what, len(o.Answers))
	}
	for i, op := range list {
		if fault := h.follow(op, o.Answers[i]); fault != "" {
			t.Fatalf("%s: operation %d: %s", what, i, fault)
		}
	}
	return o
}

// life is a session with every operation that changes a store: keys put,
// deleted and put again, over all levels, with deletions that are kept and
// deletions that are dropped, tables that go and come, and an opening again.
func life() []impl.Op {
	big := strings.Repeat("v", 70)
	return ops(opOpen, opPut("a", "1"), opPut("b", "2"), opDel("a"), opBatch(put("c", 0, "3"), put("d", 0, big), del("b", 0), put("c", 0, "4")), opSync, opPut("e", "5"),
		opFlush, opPut("a", "6"), opDel("c"), opFlush, opCompact(0), opPut("f", big), opCompact(1), opDel("d"), opPut("c", "7"), opFlush,
		opPut("g", "8"), opCompact(0), opCompact(1), opCompact(2), opDel("a"), opDel("e"), opSync, opBatch(del("c", 0), del("f", 0)), opFlush,
		opClose, opOpen, opPut("a", "9"), opCompact(0), opDel("g"), opFlush, opCompact(0), opDel("a"), opFlush, opCompact(0), opCompact(1), opCompact(2),
		opPut("b", "10"), opPut("h", "11"), opClose, opOpen, opPut("b", "12"), opDel("h"))
}

func withLooks(list []impl.Op) []impl.Op {
	looks := ops(opAll, opGet("a"), opGet("c"), opGet("zz"), opScan("b", "e"))
	all := []impl.Op{}
	for _, op := range list {
		all = append(append(all, op), looks...)
	}
	return all
}

func TestPromise8LooksAreTheMap(t *testing.T) {
	h := &history{}
	o := h.followAll(t, "life", emptyDir(), withLooks(life()))
	for i := 0; i < len(o.Answers); i += len(o.Answers) / len(life()) {
		if a := o.Answers[i]; a.Code != impl.RunOk {
			t.Errorf("answer %d is %s", i, tell(a))
		}
	}
	if got := tellMap(h.mapOf(len(h.batches)), "", ""); got != "0 b=12" {
		t.Errorf("the test's map is %s", got)
	}
}

// keepsOf has crashes that cut each file with something not synced at, just
// ahead of and just behind each page, in all combinations.
func keepsOf(fs impl.FS) [][]int {
	all := [][]int{{}}
	for _, f := range fs.Files {
		cuts := []int{-1}
		for n := 0; n <= len(f.Data)-f.Synced && len(f.Data) > f.Synced; n++ {
			if rest := (f.Synced + n) % 64; rest == 0 || rest == 1 || rest == 63 || n == 0 {
				cuts = append(cuts, n)
			}
		}
		if len(cuts) > 1 {
			cuts[len(cuts)-1] = maxInt
		}
		longer := [][]int{}
		for _, keep := range all {
			for _, cut := range cuts {
				longer = append(longer, append(slices.Clone(keep), cut))
			}
		}
		all = longer
	}
	return all
}

// fewKeeps has the crashes that take all, nothing, and something of each file.
func fewKeeps(fs impl.FS) [][]int {
	n := len(fs.Files)
	return [][]int{nil, slices.Repeat([]int{maxInt}, n), slices.Repeat([]int{65}, n)}
}

func TestPromise9CrashBehindEveryOperation(t *testing.T) {
	list := life()
	h := &history{}
	seen := 0
	for i := range list {
		o := impl.Exec(emptyDir(), list[:i+1])
		if fault := h.follow(list[i], o.Answers[i]); fault != "" {
			t.Fatal(fault)
		}
		for _, keep := range keepsOf(o.Fs) {
			after := h.copy()
			what := "crash behind operation " + strconv.Itoa(i) + " keep" + tellInts(keep)
			after.followAll(t, what, o.Fs, ops(opCrash(keep...), opOpen, opAll, opPut("n", "1"), opAll, opClose, opOpen, opAll))
			seen += after.lost
		}
		// In one session, which goes on as if nothing had been.
		for _, keep := range fewKeeps(o.Fs) {
			whole := &history{}
			whole.followAll(t, "one session, crash behind operation "+strconv.Itoa(i), emptyDir(), slices.Concat(list[:i+1], ops(opCrash(keep...), opOpen, opAll), withLooks(list[i+1:]), ops(opCrash(keep...), opOpen, opAll)))
		}
	}
	if seen < 40 {
		t.Errorf("only %d crashes took something: the test misses its purpose", seen)
	}
}

func tellInts(list []int) string {
	s := ""
	for _, n := range list {
		s += " " + strconv.Itoa(n)
	}
	return s
}

// deaths runs a session up to each of its operations, and lets the process die
// at each step of that one.
func deaths(t *testing.T, fs impl.FS, list []impl.Op, found func(what string, o impl.Outcome, h *history)) {
	t.Helper()
	h := &history{}
	for i, op := range list {
		for n := 0; ; n++ {
			o := impl.Exec(fs, then(list[:i], opFuel(n), op))
			if o.Answers[i+1].Code != impl.RunDead {
				break
			}
			found("dead after "+strconv.Itoa(n)+" steps of operation "+strconv.Itoa(i), o, h)
		}
		o := impl.Exec(fs, list[:i+1])
		if fault := h.follow(op, o.Answers[i]); fault != "" {
			t.Fatal(fault)
		}
	}
}

func TestPromise9DeadAtEveryStep(t *testing.T) {
	seen := 0
	deaths(t, emptyDir(), life(), func(what string, o impl.Outcome, h *history) {
		seen++
		for _, keep := range keepsOf(o.Fs) {
			h.copy().followAll(t, what+" keep"+tellInts(keep), o.Fs, ops(opCrash(keep...), opOpen, opAll, opPut("n", "1"), opAll))
		}
	})
	if seen < 150 {
		t.Errorf("only %d deaths: the test misses its purpose", seen)
	}
}

// The opening behind a crash dies too, at each of its steps, and the one behind
// it finds the same.
func TestPromise9DeadInTheOpeningBehindIt(t *testing.T) {
	seen := 0
	deaths(t, emptyDir(), life(), func(what string, o impl.Outcome, h *history) {
		for i, keep := range fewKeeps(o.Fs) {
			fs := impl.FsCrash(o.Fs, keep)
			for n := 0; ; n++ {
				second := impl.Exec(fs, ops(opFuel(n), opOpen))
				if second.Answers[1].Code != impl.RunDead {
					break
				}
				seen++
				after := h.copy()
				again := fewKeeps(second.Fs)[(i+n)%3]
				after.followAll(t, what+", and again", fs, ops(opCrash(), opFuel(n), opOpen, opCrash(again...), opOpen, opAll, opClose, opOpen, opAll))
			}
		}
	})
	if seen < 3000 {
		t.Errorf("only %d deaths: the test misses its purpose", seen)
	}
}

// needs is the greatest number of bytes that a session has at a time.
func needs(list []impl.Op) int {
	lo, hi := 0, impl.MaxTotal
	for lo < hi {
		mid := (lo + hi) / 2
		full := slices.ContainsFunc(impl.Exec(dir(mid, -1), list).Answers, func(a impl.Answer) bool { return a.Code == impl.RunFull })
		if full {
			lo = mid + 1
		} else {
			hi = mid
		}
	}
	return lo
}

func TestPromise10EveryQuota(t *testing.T) {
	list := life()
	most := needs(list)
	if most < 1000 {
		t.Fatalf("the session needs only %d bytes", most)
	}
	refused := 0
	for quota := range most + 1 {
		h := &history{}
		what := "quota " + strconv.Itoa(quota)
		o := h.followAll(t, what, dir(quota, -1), withLooks(list))
		refused += h.refused
		if (h.refused == 0) != (quota == most) {
			t.Errorf("%s: %d operations found no room", what, h.refused)
		}
		for _, keep := range fewKeeps(o.Fs) {
			h.copy().followAll(t, what+", crashed", withQuota(o.Fs, impl.MaxTotal), ops(opCrash(keep...), opOpen, opAll))
		}
	}
	if refused < 10000 {
		t.Errorf("only %d operations found no room: the test misses its purpose", refused)
	}
}

// Promises 9 and 10 together: a quota that ends in an operation, and a death at
// each step, those of giving up among them.
func TestPromise10DeadWhereThereIsNoRoom(t *testing.T) {
	list := life()
	for quota := 74; quota < needs(list); quota += 61 {
		deaths(t, dir(quota, -1), list, func(what string, o impl.Outcome, h *history) {
			for _, keep := range fewKeeps(o.Fs) {
				h.copy().followAll(t, "quota "+strconv.Itoa(quota)+", "+what, withQuota(o.Fs, impl.MaxTotal), ops(opCrash(keep...), opOpen, opAll))
			}
		})
	}
}

// Giving up for files: others crowd the directory.
func TestPromise10EveryNumberOfFiles(t *testing.T) {
	refused := 0
	for n := 185; n <= 200; n++ {
		h := &history{}
		o := h.followAll(t, strconv.Itoa(n)+" files", crowded(emptyDir(), n), withLooks(life()))
		refused += h.refused
		room := withoutFile(withoutFile(withoutFile(withoutFile(o.Fs, "x1000"), "x1001"), "x1002"), "x1003")
		h.followAll(t, strconv.Itoa(n)+" files, crashed", room, ops(opCrash(), opOpen, opAll))
	}
	if refused < 10 {
		t.Errorf("only %d operations found no room: the test misses its purpose", refused)
	}
}

// Sessions by the dice, from the empty directory, without OpPoke and OpRepair.
func TestPromises8To10BySessions(t *testing.T) {
	d := &dice{state: 8910}
	lost, refused, dead := 0, 0, 0
	for walk := range 1200 {
		fs := emptyDir()
		if walk%2 == 0 {
			fs.Quota = 300 + d.below(3000)
		}
		p := &plainStore{fs: fs}
		list := []impl.Op{}
		add := func(op impl.Op) {
			list = append(list, op)
			p.answer(op)
		}
		for len(list) < 100 {
			op := d.op(p)
			if op.Kind == impl.OpPoke || op.Kind == impl.OpRepair {
				continue
			}
			add(op)
			if op.Kind == impl.OpOpen {
				add(opAll)
			}
		}
		h := &history{}
		o := h.followAll(t, "walk "+strconv.Itoa(walk), fs, list)
		h.copy().followAll(t, "walk "+strconv.Itoa(walk)+", crashed", withQuota(o.Fs, impl.MaxTotal), ops(opCrash(d.keeps(o.Fs)...), opOpen, opAll))
		lost, refused = lost+h.lost, refused+h.refused
		if o.Mode == impl.ModeDead {
			dead++
		}
	}
	if lost < 100 || refused < 1000 || dead < 20 {
		t.Errorf("%d crashes took something, %d operations found no room, %d ended dead: the walks miss their purpose", lost, refused, dead)
	}
}
