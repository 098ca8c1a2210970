package tests

import (
	"slices"
	"testing"

	"loop.example/s01733/impl"
)

func table(num int, level int, lo string, hi string) impl.TableRef {
	return impl.TableRef{Num: num, Level: level, Lo: lo, Hi: hi}
}

// tables is n tables of level 0 with the numbers from first on.
func tables(first int, n int) []impl.TableRef {
	refs := []impl.TableRef{}
	for i := range n {
		refs = append(refs, table(first+i, 0, "a", "b"))
	}
	return refs
}

func numbers(first int, n int) []int {
	nums := []int{}
	for i := range n {
		nums = append(nums, first+i)
	}
	return nums
}

// adding is an edit that is in order for any tables with small numbers.
func adding(refs ...impl.TableRef) impl.Edit {
	return impl.Edit{Adds: refs, Log: 7, Next: 5000, Last: 9}
}

func deleting(nums ...int) impl.Edit {
	return impl.Edit{Dels: nums, Log: 7, Next: 5000, Last: 9}
}

func version(refs ...impl.TableRef) impl.Version {
	return impl.Version{Tables: refs, Log: 7, Next: 5000, Last: 9}
}

// editText is an edit told once more from the document, whether or not it is
// valid.
func editText(e impl.Edit) string {
	b := []byte(varint(len(e.Adds)))
	for _, r := range e.Adds {
		b = append(b, varint(r.Num)+varint(r.Level)+sized(r.Lo)+sized(r.Hi)...)
	}
	b = append(b, varint(len(e.Dels))...)
	for _, num := range e.Dels {
		b = append(b, varint(num)...)
	}
	return string(b) + varint(e.Log) + varint(e.Next) + varint(e.Last)
}

func editFrame(e impl.Edit) string {
	return impl.Frame(impl.FrameEdit, editText(e))
}

func copyEdit(e impl.Edit) impl.Edit {
	e.Adds, e.Dels = slices.Clone(e.Adds), slices.Clone(e.Dels)
	return e
}

func sameEdit(a impl.Edit, b impl.Edit) bool {
	return slices.Equal(a.Adds, b.Adds) && slices.Equal(a.Dels, b.Dels) && a.Log == b.Log && a.Next == b.Next && a.Last == b.Last
}

func copyVersion(v impl.Version) impl.Version {
	v.Tables = slices.Clone(v.Tables)
	return v
}

func sameVersion(a impl.Version, b impl.Version) bool {
	return slices.Equal(a.Tables, b.Tables) && a.Log == b.Log && a.Next == b.Next && a.Last == b.Last
}

// expectEncodedEdit gives the edit with room behind its lists, so that writing
// there shows.
func expectEncodedEdit(t *testing.T, what string, e impl.Edit, want string) {
	t.Helper()
	roomy := e
	roomy.Adds = append(slices.Clone(e.Adds), make([]impl.TableRef, 4)...)
	roomy.Dels = append(slices.Clone(e.Dels), make([]int, 4)...)
	before := copyEdit(roomy)
	given := roomy
	given.Adds, given.Dels = roomy.Adds[:len(e.Adds)], roomy.Dels[:len(e.Dels)]
	if got := impl.EncodeEdit(given); got != want {
		t.Errorf("%s: EncodeEdit gave %s, want %s", what, brief(got), brief(want))
	}
	if !sameEdit(roomy, before) {
		t.Errorf("%s: EncodeEdit changed its argument", what)
	}
}

func expectDecodedEdit(t *testing.T, what string, s string, want impl.Edit, wantOk bool) {
	t.Helper()
	got, ok := impl.DecodeEdit(s)
	if ok != wantOk || !sameEdit(got, want) {
		t.Errorf("%s: DecodeEdit %s gave %d adds, %d dels, %d %d %d and %v", what, brief(s), len(got.Adds), len(got.Dels), got.Log, got.Next, got.Last, ok)
	}
}

func expectNoEditText(t *testing.T, what string, s string) {
	t.Helper()
	expectDecodedEdit(t, what, s, impl.Edit{}, false)
}

// expectEdit looks at one edit both ways: a valid one is written and read, one
// that is not is neither, not even from a text that says it.
func expectEdit(t *testing.T, what string, e impl.Edit, valid bool) {
	t.Helper()
	if valid {
		expectEncodedEdit(t, what, e, editText(e))
		expectDecodedEdit(t, what, editText(e), e, true)
		return
	}
	expectEncodedEdit(t, what, e, "")
	expectNoEditText(t, what, editText(e))
}

// expectOnlyWrittenEdit is whether the text is read; what is read is written so.
func expectOnlyWrittenEdit(t *testing.T, s string) bool {
	t.Helper()
	e, ok := impl.DecodeEdit(s)
	if !ok && !sameEdit(e, impl.Edit{}) {
		t.Errorf("%s is refused, and gives %#v", brief(s), e)
	}
	if ok && (s == "" || impl.EncodeEdit(e) != s) {
		t.Errorf("%s is read as %#v, which is written %s", brief(s), e, brief(impl.EncodeEdit(e)))
	}
	return ok
}

// expectApplied looks at the answer, at whether what was given is as it was,
// and at whether writing into either shows in the other.
func expectApplied(t *testing.T, what string, v impl.Version, e impl.Edit, want impl.Version, wantOk bool) {
	t.Helper()
	v, e = copyVersion(v), copyEdit(e)
	vBefore, eBefore := copyVersion(v), copyEdit(e)
	got, ok := impl.ApplyEdit(v, e)
	if ok != wantOk || !sameVersion(got, want) {
		t.Errorf("%s: ApplyEdit gave %d tables, %d %d %d and %v, want %d tables, %d %d %d and %v", what,
			len(got.Tables), got.Log, got.Next, got.Last, ok, len(want.Tables), want.Log, want.Next, want.Last, wantOk)
	}
	if !sameVersion(v, vBefore) || !sameEdit(e, eBefore) {
		t.Errorf("%s: ApplyEdit changed what it was given", what)
	}
	kept := copyVersion(got)
	scribble(v.Tables)
	scribble(e.Adds)
	if !sameVersion(got, kept) {
		t.Errorf("%s: the answer changes with what was given", what)
	}
	copy(v.Tables, vBefore.Tables)
	copy(e.Adds, eBefore.Adds)
	scribble(got.Tables)
	if !sameVersion(v, vBefore) || !sameEdit(e, eBefore) {
		t.Errorf("%s: what was given changes with the answer", what)
	}
}

func scribble(refs []impl.TableRef) {
	whole := refs[:cap(refs)]
	for i := range whole {
		whole[i] = impl.TableRef{Lo: "written by the test"}
	}
}

func expectNotApplied(t *testing.T, what string, v impl.Version, e impl.Edit) {
	t.Helper()
	expectApplied(t, what, v, e, impl.Version{}, false)
}

func expectManifest(t *testing.T, what string, s string, want impl.Version, wantPages int, wantOk bool) {
	t.Helper()
	got, pages, ok := impl.ReadManifest(s)
	if ok != wantOk || pages != wantPages || !sameVersion(got, want) {
		t.Errorf("%s: ReadManifest gave %d tables, %d %d %d, %d pages and %v, want %d tables, %d %d %d, %d pages and %v", what,
			len(got.Tables), got.Log, got.Next, got.Last, pages, ok, len(want.Tables), want.Log, want.Next, want.Last, wantPages, wantOk)
	}
}

func expectNoManifest(t *testing.T, what string, s string) {
	t.Helper()
	expectManifest(t, what, s, impl.Version{}, 0, false)
}

func expectDump(t *testing.T, what string, fs impl.FS, want string) {
	t.Helper()
	before := copyFS(fs)
	if got := impl.Dump(fs); got != want {
		t.Errorf("%s: Dump gave %q, want %q", what, got, want)
	}
	if !sameFS(fs, before) {
		t.Errorf("%s: Dump changed its argument", what)
	}
}

// plainApply is ApplyEdit told once more: each sentence of the document by
// itself, and of the ranges every pair.
func plainApply(v impl.Version, e impl.Edit) (impl.Version, bool) {
	after := impl.Version{Log: e.Log, Next: e.Next, Last: e.Last}
	ok := impl.EncodeEdit(e) != "" && e.Log < e.Next && len(v.Tables) <= 1000
	for _, num := range e.Dels {
		ok = ok && slices.ContainsFunc(v.Tables, func(r impl.TableRef) bool { return r.Num == num })
	}
	for _, r := range v.Tables {
		if !slices.Contains(e.Dels, r.Num) {
			after.Tables = append(after.Tables, r)
		}
	}
	after.Tables = append(after.Tables, e.Adds...)
	ok = ok && len(after.Tables) <= 1000
	for i, r := range after.Tables {
		ok = ok && r.Num < e.Next
		for _, other := range after.Tables[:i] {
			ok = ok && r.Num != other.Num
			ok = ok && (r.Level != other.Level || r.Level <= 0 || r.Hi < other.Lo || other.Hi < r.Lo)
		}
	}
	if !ok {
		return impl.Version{}, false
	}
	slices.SortFunc(after.Tables, func(a impl.TableRef, b impl.TableRef) int {
		if a.Level != b.Level {
			return a.Level - b.Level
		}
		return a.Num - b.Num
	})
	return after, true
}
