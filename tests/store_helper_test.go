package tests

import (
	"slices"
	"strconv"
	"strings"
	"testing"

	"loop.example/s01733/impl"
)

var (
	opOpen   = impl.Op{Kind: impl.OpOpen}
	opSync   = impl.Op{Kind: impl.OpSync}
	opFlush  = impl.Op{Kind: impl.OpFlush}
	opClose  = impl.Op{Kind: impl.OpClose}
	opCheck  = impl.Op{Kind: impl.OpCheck}
	opRepair = impl.Op{Kind: impl.OpRepair}
	opDump   = impl.Op{Kind: impl.OpDump}
	opList   = impl.Op{Kind: impl.OpList}
	opAll    = impl.Op{Kind: impl.OpScan}
)

func opPut(key string, val string) impl.Op {
	return impl.Op{Kind: impl.OpPut, Key: key, Val: val}
}

func opDel(key string) impl.Op {
	return impl.Op{Kind: impl.OpDel, Key: key}
}

func opBatch(es ...impl.Entry) impl.Op {
	return impl.Op{Kind: impl.OpBatch, Batch: es}
}

func opGet(key string) impl.Op {
	return impl.Op{Kind: impl.OpGet, Key: key}
}

func opScan(lo string, hi string) impl.Op {
	return impl.Op{Kind: impl.OpScan, Key: lo, Val: hi}
}

func opCompact(level int) impl.Op {
	return impl.Op{Kind: impl.OpCompact, N: level}
}

func opCrash(keep ...int) impl.Op {
	return impl.Op{Kind: impl.OpCrash, Keep: keep}
}

func opFuel(n int) impl.Op {
	return impl.Op{Kind: impl.OpFuel, N: n}
}

func opPoke(name string, at int, val string) impl.Op {
	return impl.Op{Kind: impl.OpPoke, Key: name, N: at, Val: val}
}

func ops(list ...impl.Op) []impl.Op {
	return list
}

// then is a new list: appending to one that two tests share would not be.
func then(list []impl.Op, more ...impl.Op) []impl.Op {
	return append(slices.Clone(list), more...)
}

func emptyDir() impl.FS {
	return dir(impl.MaxTotal, -1)
}

func withQuota(fs impl.FS, quota int) impl.FS {
	fs = copyFS(fs)
	fs.Quota = quota
	return fs
}

func totalOf(fs impl.FS) int {
	n := 0
	for _, f := range fs.Files {
		n += len(f.Data)
	}
	return n
}

// crowded is the directory with foreign files beside, so that it has n files.
func crowded(fs impl.FS, n int) impl.FS {
	fs = copyFS(fs)
	for i := 0; len(fs.Files) < n; i++ {
		fs.Files = append(fs.Files, file("x"+strconv.Itoa(1000+i), "", 0))
	}
	return fs
}

func copyOps(list []impl.Op) []impl.Op {
	list = slices.Clone(list)
	for i := range list {
		list[i].Batch = slices.Clone(list[i].Batch)
		list[i].Keep = slices.Clone(list[i].Keep)
	}
	return list
}

func sameOps(a []impl.Op, b []impl.Op) bool {
	return slices.EqualFunc(a, b, func(x impl.Op, y impl.Op) bool {
		return x.Kind == y.Kind && x.Key == y.Key && x.Val == y.Val && x.N == y.N && slices.Equal(x.Batch, y.Batch) && slices.Equal(x.Keep, y.Keep)
	})
}

func copyAnswers(list []impl.Answer) []impl.Answer {
	list = slices.Clone(list)
	for i := range list {
		list[i].Pairs = slices.Clone(list[i].Pairs)
	}
	return list
}

func sameAnswer(a impl.Answer, b impl.Answer) bool {
	return a.Code == b.Code && a.Val == b.Val && slices.Equal(a.Pairs, b.Pairs)
}

func sameOutcome(a impl.Outcome, b impl.Outcome) bool {
	return a.Mode == b.Mode && sameFS(a.Fs, b.Fs) && slices.EqualFunc(a.Answers, b.Answers, sameAnswer)
}

func copyOutcome(o impl.Outcome) impl.Outcome {
	o.Fs, o.Answers = copyFS(o.Fs), copyAnswers(o.Answers)
	return o
}

func scribbleGiven(fs impl.FS, list []impl.Op) {
	for i := range fs.Files {
		fs.Files[i] = file("written by the test", "x", 1)
	}
	for i := range list {
		for j := range list[i].Batch {
			list[i].Batch[j] = put("written by the test", 9, "x")
		}
		for j := range list[i].Keep {
			list[i].Keep[j] = 77
		}
		list[i] = impl.Op{Kind: impl.OpFuel, N: 77}
	}
}

// scribbleOutcome writes another mark into each list of an outcome, and gives
// whether each still has its own in the end.
func scribbleOutcome(o impl.Outcome) bool {
	files := o.Fs.Files[:cap(o.Fs.Files)]
	for i := range files {
		files[i] = file("written by the test", "x", 1)
	}
	for i, a := range o.Answers {
		pairs := a.Pairs[:cap(a.Pairs)]
		for j := range pairs {
			pairs[j].Key = strconv.Itoa(i)
		}
	}
	for i, a := range o.Answers {
		for _, p := range a.Pairs[:cap(a.Pairs)] {
			if p.Key != strconv.Itoa(i) {
				return false
			}
		}
	}
	return true
}

// exec runs the operations and looks at what holds for every run: an answer to
// each, a valid directory, nothing written into what was given, and no memory
// in common, neither with that nor between two lists of the outcome.
func exec(t *testing.T, fs impl.FS, list ...impl.Op) impl.Outcome {
	t.Helper()
	fs, list = copyFS(fs), copyOps(list)
	fsBefore, before := copyFS(fs), copyOps(list)
	o := impl.Exec(fs, list)
	if len(o.Answers) != len(list) || !impl.ValidFS(o.Fs) {
		t.Fatalf("%d answers to %d operations, directory valid: %v", len(o.Answers), len(list), impl.ValidFS(o.Fs))
	}
	if !sameFS(fs, fsBefore) || !sameOps(list, before) {
		t.Errorf("Exec changed what it was given")
	}
	kept := copyOutcome(o)
	scribbleGiven(fs, list)
	if !sameOutcome(o, kept) {
		t.Errorf("the outcome changes with what was given")
	}
	fs, list = fsBefore, before
	again := impl.Exec(fs, list)
	if !sameOutcome(again, kept) {
		t.Errorf("the same call answers otherwise")
	}
	fsBefore, before = copyFS(fs), copyOps(list)
	if !scribbleOutcome(again) {
		t.Errorf("two lists of the outcome share memory")
	}
	if !sameFS(fs, fsBefore) || !sameOps(list, before) {
		t.Errorf("what was given changes with the outcome")
	}
	return kept
}

// tell is an answer in a line.
func tell(a impl.Answer) string {
	s := strconv.Itoa(a.Code)
	for _, p := range a.Pairs {
		s += " " + p.Key + "=" + p.Val
	}
	if a.Val != "" {
		s += " " + strings.ReplaceAll(a.Val, "\n", ";")
	}
	return s
}

// said is an operation and what tell makes of its answer.
type said struct {
	op     impl.Op
	answer string
}

func expectSession(t *testing.T, what string, fs impl.FS, says ...said) impl.Outcome {
	t.Helper()
	list := []impl.Op{}
	for _, s := range says {
		list = append(list, s.op)
	}
	o := exec(t, fs, list...)
	for i, s := range says {
		if got := tell(o.Answers[i]); got != s.answer {
			t.Errorf("%s: answer %d, to kind %d, is %q, want %q", what, i, s.op.Kind, got, s.answer)
		}
	}
	return o
}

func expectCode(t *testing.T, what string, o impl.Outcome, code int, mode int) {
	t.Helper()
	if got := o.Answers[len(o.Answers)-1].Code; got != code || o.Mode != mode {
		t.Errorf("%s: code %d mode %d, want code %d mode %d", what, got, o.Mode, code, mode)
	}
}

// expectPeek looks at the answer, at whether what was given is as it was, and
// at whether writing into that shows in the answer.
func expectPeek(t *testing.T, what string, fs impl.FS, code int, pairs string) {
	t.Helper()
	fs = copyFS(fs)
	before := copyFS(fs)
	got, gotCode := impl.Peek(fs)
	if !sameFS(fs, before) {
		t.Errorf("%s: Peek changed its argument", what)
	}
	scribbleGiven(fs, nil)
	if gotCode != code || tell(impl.Answer{Pairs: got}) != strings.TrimSpace("0 "+pairs) {
		t.Errorf("%s: Peek gave %d and %s, want %d and %s", what, gotCode, tell(impl.Answer{Pairs: got}), code, pairs)
	}
}

func names(fs impl.FS) string {
	list := []string{}
	for _, f := range fs.Files {
		list = append(list, f.Name)
	}
	return strings.Join(list, " ")
}

// fileOf is the file with that name, or the zero File.
func fileOf(fs impl.FS, name string) impl.File {
	for _, f := range fs.Files {
		if f.Name == name {
			return f
		}
	}
	return impl.File{}
}

// gone gives the names of a that b has not.
func gone(a impl.FS, b impl.FS) []string {
	list := []string{}
	for _, f := range a.Files {
		if fileOf(b, f.Name).Name == "" {
			list = append(list, f.Name)
		}
	}
	return list
}

// stepBetween tells the step that made b of a; a dash if none is to be seen:
// one that was refused, or a sync of what was synced.
func stepBetween(a impl.FS, b impl.FS) string {
	out, in := gone(a, b), gone(b, a)
	changes := []string{}
	for _, f := range b.Files {
		old := fileOf(a, f.Name)
		switch {
		case old.Name == "" || old == f:
		case len(out) == 1 && f.Data == fileOf(a, out[0]).Data && f.Synced == fileOf(a, out[0]).Synced:
			in = append(in, f.Name)
		case old.Data == f.Data && f.Synced == len(f.Data):
			changes = append(changes, "sync "+f.Name)
		case strings.HasPrefix(f.Data, old.Data) && old.Synced == f.Synced:
			changes = append(changes, "append "+f.Name+" "+strconv.Itoa(len(f.Data)-len(old.Data)))
		default:
			changes = append(changes, "change "+f.Name)
		}
	}
	switch {
	case len(out) == 1 && len(in) == 1:
		changes = append(changes, "rename "+out[0]+" "+in[0])
	default:
		for _, name := range out {
			changes = append(changes, "remove "+name)
		}
		for _, name := range in {
			changes = append(changes, "create "+name)
		}
	}
	if len(changes) == 0 {
		return "-"
	}
	return strings.Join(changes, " and ")
}

// stepsOf tells the steps that an operation takes. The operation is run again
// and again, with fuel for one step more each time, and each directory is held
// against the one before.
func stepsOf(t *testing.T, fs impl.FS, before []impl.Op, last impl.Op) ([]string, impl.Outcome) {
	t.Helper()
	steps := []string{}
	var old impl.FS
	for n := 0; ; n++ {
		o := impl.Exec(fs, then(before, opFuel(n), last))
		code := o.Answers[len(o.Answers)-1].Code
		if n > 0 {
			steps = append(steps, stepBetween(old, o.Fs))
		}
		if o.Fs.Fuel != 0 {
			t.Fatalf("fuel %d is left of %d", o.Fs.Fuel, n)
		}
		if (code == impl.RunDead) != (o.Mode == impl.ModeDead) {
			t.Fatalf("code %d, mode %d", code, o.Mode)
		}
		if code != impl.RunDead {
			return steps, o
		}
		old = o.Fs
	}
}

func expectSteps(t *testing.T, what string, fs impl.FS, before []impl.Op, last impl.Op, code int, want ...string) impl.Outcome {
	t.Helper()
	got, o := stepsOf(t, fs, before, last)
	if !slices.Equal(got, want) {
		t.Errorf("%s: the steps are\n %s\nwant\n %s", what, strings.Join(got, "\n "), strings.Join(want, "\n "))
	}
	if a := o.Answers[len(o.Answers)-1]; a.Code != code || a.Val != "" || len(a.Pairs) != 0 {
		t.Errorf("%s: the answer is %s, want %d", what, tell(a), code)
	}
	free := exec(t, fs, then(before, last)...)
	if !slices.Equal(free.Fs.Files, o.Fs.Files) || free.Mode != o.Mode {
		t.Errorf("%s: with fuel for ever it leaves another directory", what)
	}
	return o
}

func sst(es ...impl.Entry) string {
	return partsOf(eights(es)...).text()
}

// logText is a log with one batch a list.
func logText(batches ...[]impl.Entry) string {
	s := ""
	for _, es := range batches {
		s += batch(entriesText(es))
	}
	return s
}

func entries(es ...impl.Entry) []impl.Entry {
	return es
}

// withFile is the directory with another file, or with other Data in one; all
// of it is synced.
func withFile(fs impl.FS, name string, data string) impl.FS {
	fs = withoutFile(fs, name)
	at := 0
	for at < len(fs.Files) && fs.Files[at].Name < name {
		at++
	}
	fs.Files = slices.Insert(fs.Files, at, file(name, data, len(data)))
	return fs
}

func withoutFile(fs impl.FS, name string) impl.FS {
	fs = copyFS(fs)
	fs.Files = slices.DeleteFunc(fs.Files, func(f impl.File) bool { return f.Name == name })
	return fs
}

// storeDir is a directory with a manifest of these edits, and files beside,
// each with its name and its Data.
func storeDir(manifest int, edits []impl.Edit, texts ...string) impl.FS {
	name := "MANIFEST-" + strconv.Itoa(manifest)
	fs := withFile(withFile(emptyDir(), "CURRENT", name), name, manifestText(edits...))
	for i := 0; i < len(texts); i += 2 {
		fs = withFile(fs, texts[i], texts[i+1])
	}
	return fs
}
