package tests

import (
	"encoding/binary"
	"slices"
	"strconv"
	"testing"

	"loop.example/s01733/impl"
)

// parts is a table told once more from the document, with each part open, so
// that a test can write one that is as it should be or one that is not.
type parts struct {
	blocks [][]impl.Entry
	refs   []ref
	count  int
	foot   int
}

// ref is what the index says of a block.
type ref struct {
	page  int
	count int
	first string
	last  string
}

// partsOf has an index and a foot that are right for the blocks, whatever
// sizes these have.
func partsOf(blocks ...[]impl.Entry) parts {
	p := parts{blocks: blocks, count: len(blocks)}
	for _, b := range blocks {
		r := ref{page: p.foot, count: len(b)}
		if len(b) > 0 {
			r.first, r.last = b[0].Key, b[len(b)-1].Key
		}
		p.refs = append(p.refs, r)
		p.foot += len(blockText(b)) / 64
	}
	return p
}

func eights(es []impl.Entry) [][]impl.Entry {
	blocks := [][]impl.Entry{}
	for len(es) > 8 {
		blocks = append(blocks, es[:8])
		es = es[8:]
	}
	if len(es) > 0 {
		blocks = append(blocks, es)
	}
	return blocks
}

func varint(n int) string {
	return string(binary.AppendUvarint(nil, uint64(n)))
}

func sized(s string) string {
	return varint(len(s)) + s
}

func entriesText(es []impl.Entry) string {
	s := varint(len(es))
	for _, e := range es {
		s += sized(e.Key) + varint(e.Seq) + string([]byte{byte(e.Kind)}) + sized(e.Val)
	}
	return s
}

func blockText(es []impl.Entry) string {
	return impl.Frame(impl.FrameBlock, entriesText(es))
}

func (p parts) body() string {
	s := ""
	for _, b := range p.blocks {
		s += blockText(b)
	}
	return s
}

func (p parts) indexPayload() string {
	b := []byte(varint(p.count))
	for _, r := range p.refs {
		b = append(b, varint(r.page)+varint(r.count)+sized(r.first)+sized(r.last)...)
	}
	return string(b)
}

func (p parts) index() string {
	return impl.Frame(impl.FrameIndex, p.indexPayload())
}

func (p parts) end() string {
	return impl.Frame(impl.FrameFoot, varint(p.foot))
}

func (p parts) text() string {
	return p.body() + p.index() + p.end()
}

// letters is a list in order of n entries with small keys.
func letters(n int) []impl.Entry {
	es := []impl.Entry{}
	for i := range n {
		es = append(es, put("k"+strconv.Itoa(1000+i), 1+i%5, "v"))
	}
	return es
}

func expectBuilt(t *testing.T, what string, es []impl.Entry, want string) {
	t.Helper()
	before := slices.Clone(es)
	if got := impl.BuildTable(es); got != want {
		t.Errorf("%s: BuildTable gave %s, want %s", what, brief(got), brief(want))
	}
	if !slices.Equal(es, before) {
		t.Errorf("%s: BuildTable changed its argument", what)
	}
}

func expectNotBuilt(t *testing.T, what string, es []impl.Entry) {
	t.Helper()
	expectBuilt(t, what, es, "")
}

func expectTable(t *testing.T, what string, s string, want []impl.Entry, wantOk bool) {
	t.Helper()
	got, ok := impl.ReadTable(s)
	if ok != wantOk || !slices.Equal(got, want) {
		t.Errorf("%s: ReadTable of %d bytes gave %d entries and %v, want %d and %v", what, len(s), len(got), ok, len(want), wantOk)
	}
}

func expectNoTable(t *testing.T, what string, s string) {
	t.Helper()
	expectTable(t, what, s, nil, false)
}

// expectBothWays is promise 5 for one list.
func expectBothWays(t *testing.T, what string, es []impl.Entry) {
	t.Helper()
	s := partsOf(eights(es)...).text()
	expectBuilt(t, what, es, s)
	expectTable(t, what, s, es, true)
}

// expectOnlyBuilt is the other half of it: what is read is built so.
func expectOnlyBuilt(t *testing.T, s string) bool {
	t.Helper()
	es, ok := impl.ReadTable(s)
	if !ok && len(es) > 0 {
		t.Errorf("%s is refused, and gives %d entries", brief(s), len(es))
	}
	if ok && (s == "" || impl.BuildTable(es) != s) {
		t.Errorf("%s is read as %#v, which is built %s", brief(s), es, brief(impl.BuildTable(es)))
	}
	return ok
}

// sortedList is a list in order of at most n entries.
func (d *dice) sortedList(n int) []impl.Entry {
	es := d.entries(n)
	slices.SortFunc(es, compareEntries)
	return slices.CompactFunc(es, func(a impl.Entry, b impl.Entry) bool { return compareEntries(a, b) == 0 })
}

func compareEntries(a impl.Entry, b impl.Entry) int {
	switch {
	case a.Key < b.Key || a.Key == b.Key && a.Seq > b.Seq:
		return -1
	case a.Key == b.Key && a.Seq == b.Seq:
		return 0
	}
	return 1
}

// plainNewest is Newest told once more: entry by entry, each against the best
// so far with its key.
func plainNewest(lists [][]impl.Entry) []impl.Entry {
	best := map[string]impl.Entry{}
	keys := []string{}
	for _, list := range lists {
		for _, e := range list {
			old, ok := best[e.Key]
			if !ok {
				keys = append(keys, e.Key)
			}
			if !ok || e.Seq > old.Seq {
				best[e.Key] = e
			}
		}
	}
	slices.Sort(keys)
	newest := []impl.Entry{}
	for _, key := range keys {
		newest = append(newest, best[key])
	}
	return newest
}

func copyLists(lists [][]impl.Entry) [][]impl.Entry {
	copied := [][]impl.Entry{}
	for _, list := range lists {
		copied = append(copied, slices.Clone(list))
	}
	return copied
}

func sameLists(a [][]impl.Entry, b [][]impl.Entry) bool {
	return slices.EqualFunc(a, b, func(x []impl.Entry, y []impl.Entry) bool { return slices.Equal(x, y) })
}

// expectNewest looks at the answer, at whether the lists are as they were, and
// at whether writing into either shows in the other.
func expectNewest(t *testing.T, what string, lists [][]impl.Entry, want []impl.Entry) {
	t.Helper()
	before := copyLists(lists)
	got := impl.Newest(lists)
	if !slices.Equal(got, want) {
		t.Errorf("%s: Newest gave %#v, want %#v", what, got, want)
	}
	if !sameLists(lists, before) {
		t.Errorf("%s: Newest changed its argument", what)
	}
	kept := slices.Clone(got)
	mark := impl.Entry{Key: "written by the test"}
	for _, list := range lists {
		for i := range list {
			list[i] = mark
		}
	}
	if !slices.Equal(got, kept) {
		t.Errorf("%s: the answer changes with the argument", what)
	}
	for i, list := range lists {
		copy(list, before[i])
	}
	whole := got[:cap(got)]
	for i := range whole {
		whole[i] = mark
	}
	if !sameLists(lists, before) {
		t.Errorf("%s: the argument changes with the answer", what)
	}
}
