package tests

import (
	"strconv"
	"strings"
	"testing"

	"loop.example/s01733/impl"
)

// story is a manifest's edits, of which each can be applied behind the others,
// with frames of one page and of several.
func story() []impl.Edit {
	long := strings.Repeat("k", 200)
	return []impl.Edit{
		{Log: 1, Next: 2},
		{Adds: []impl.TableRef{table(2, 0, "a", long), table(3, 0, "a", "b")}, Log: 4, Next: 5, Last: 20},
		{Adds: []impl.TableRef{table(5, 1, "a", "m")}, Dels: []int{2}, Log: 4, Next: 6, Last: 20},
		{Adds: []impl.TableRef{table(6, 1, "n", "n"+long), table(7, 1, "o"+long, "z")}, Dels: []int{3}, Log: 8, Next: 9, Last: 31},
		{Dels: []int{5, 6, 7}, Log: 8, Next: 9, Last: 31},
	}
}

func manifestText(edits ...impl.Edit) string {
	s := ""
	for _, e := range edits {
		s += editFrame(e)
	}
	return s
}

// fold is what ApplyEdit gives one edit after the other.
func fold(t *testing.T, edits []impl.Edit) impl.Version {
	t.Helper()
	v := impl.Version{}
	for i, e := range edits {
		after, ok := impl.ApplyEdit(v, e)
		if !ok {
			t.Fatalf("edit %d cannot be applied", i)
		}
		v = after
	}
	return v
}

// expectCuts is promise 7: the whole text, and every beginning of it.
func expectCuts(t *testing.T, edits []impl.Edit) {
	t.Helper()
	whole := manifestText(edits...)
	count, end := 0, 0
	for cut := 0; cut <= len(whole); cut++ {
		for count < len(edits) && end+len(editFrame(edits[count])) <= cut {
			end += len(editFrame(edits[count]))
			count++
		}
		what := "cut at " + strconv.Itoa(cut)
		if count == 0 {
			expectNoManifest(t, what, whole[:cut])
			continue
		}
		expectManifest(t, what, whole[:cut], fold(t, edits[:count]), end/64, true)
	}
}

func TestManifestOfTheStory(t *testing.T) {
	edits := story()
	want := impl.Version{Log: 8, Next: 9, Last: 31}
	expectManifest(t, "all", manifestText(edits...), want, len(manifestText(edits...))/64, true)
	want.Tables = []impl.TableRef{table(5, 1, "a", "m"), edits[3].Adds[0], edits[3].Adds[1]}
	expectManifest(t, "all but the last", manifestText(edits[:4]...), want, len(manifestText(edits[:4]...))/64, true)
	expectManifest(t, "the first", manifestText(edits[0]), impl.Version{Log: 1, Next: 2}, 1, true)
}

func TestManifestCutAnywhere(t *testing.T) {
	expectCuts(t, story())
}

func TestManifestOfTheDice(t *testing.T) {
	d := &dice{state: 14}
	for range 150 {
		expectCuts(t, d.story(2+d.below(5)))
	}
}

// story is edits that can be applied one behind the other.
func (d *dice) story(n int) []impl.Edit {
	edits := []impl.Edit{}
	v := impl.Version{}
	for len(edits) < n {
		e := impl.Edit{Log: 1 + d.below(12), Next: 13, Last: d.below(1000)}
		for range d.below(3) {
			e.Adds = append(e.Adds, d.smallRef(true))
		}
		for _, r := range v.Tables {
			if d.below(3) == 0 {
				e.Dels = append(e.Dels, r.Num)
			}
		}
		if after, ok := plainApply(v, e); ok {
			v = after
			edits = append(edits, e)
		}
	}
	return edits
}

// Edits of which some cannot be applied: the manifest is then none, wherever
// that edit stands.
func TestManifestAgainstApplyEdit(t *testing.T) {
	d := &dice{state: 15}
	read := 0
	for range 20000 {
		edits := d.story(1 + d.below(5))
		hurt := &edits[d.below(len(edits))]
		switch d.below(4) {
		case 0:
			hurt.Adds = append(hurt.Adds, d.smallRef(true))
		case 1:
			hurt.Dels = append(hurt.Dels, 1+d.below(12))
		case 2:
			hurt.Dels = append(hurt.Dels, hurt.Dels...)
		case 3:
			hurt.Next = 6 + d.below(12)
		}
		v, ok := impl.Version{}, true
		for _, e := range edits {
			if ok {
				v, ok = impl.ApplyEdit(v, e)
			}
		}
		if !ok {
			expectNoManifest(t, "an edit that cannot be applied", manifestText(edits...))
			continue
		}
		read++
		expectManifest(t, "edits that can be applied", manifestText(edits...), v, len(manifestText(edits...))/64, true)
	}
	if read < 2000 || read > 18000 {
		t.Errorf("%d of 20000 manifests are read: the dice are loaded", read)
	}
}

// What stands behind the last whole frame does not matter, as long as it is no
// whole frame of an edit.
func TestManifestTornEnds(t *testing.T) {
	edits := story()
	s := manifestText(edits...)
	want, pages := fold(t, edits), len(s)/64
	next := editFrame(impl.Edit{Log: 1, Next: 9})
	for what, end := range map[string]string{
		"a byte": "x", "a page of zeros": strings.Repeat("\x00", 64), "63 bytes of a frame": next[:63],
		"a frame with a wrong byte":                   withByte(next, 9, next[9]^1),
		"a frame with a wrong byte and one behind it": withByte(next, 9, next[9]^1) + next,
		"a frame that is not at a page":               "x" + next,
		"a payload that is no edit, cut":              impl.Frame(impl.FrameEdit, "x")[:63],
	} {
		expectManifest(t, what, s+end, want, pages, true)
	}
	for _, kind := range frameKinds() {
		if kind != impl.FrameEdit {
			other := impl.Frame(kind, editText(impl.Edit{Log: 1, Next: 9}))
			what := "kind " + strconv.Itoa(kind)
			expectManifest(t, what+" at the end", s+other, want, pages, true)
			expectManifest(t, what+" in the middle", editFrame(edits[0])+other+editFrame(edits[1]), fold(t, edits[:1]), 1, true)
			expectNoManifest(t, what+" at the beginning", other+s)
			expectNoManifest(t, what+" alone", other)
		}
	}
}

func TestManifestsThatAreNone(t *testing.T) {
	edits := story()
	first := editFrame(edits[0])
	expectNoManifest(t, "no text", "")
	expectNoManifest(t, "no frame", "x")
	expectNoManifest(t, "pages of zeros", strings.Repeat("\x00", 128)+first)
	expectNoManifest(t, "a first frame that is not whole", first[:63])
	for _, payload := range []string{"", "x", editText(edits[1]) + "\x00", "\x00\x00\x01\x02", "\x00\x00\x00\x02\x00"} {
		wrong := impl.Frame(impl.FrameEdit, payload)
		expectNoManifest(t, "no edit at the beginning", wrong+first)
		expectNoManifest(t, "no edit in the middle", first+wrong+editFrame(edits[1]))
		expectNoManifest(t, "no edit at the end", first+wrong)
	}
	for what, e := range map[string]impl.Edit{
		"a Del that no table has": {Dels: []int{3}, Log: 1, Next: 4}, "Log at Next": {Log: 2, Next: 2},
		"a Num at Next":    {Adds: []impl.TableRef{table(2, 0, "a", "a")}, Log: 1, Next: 2},
		"one Num twice":    {Adds: []impl.TableRef{table(2, 0, "a", "a"), table(2, 1, "a", "a")}, Log: 1, Next: 3},
		"ranges that meet": {Adds: []impl.TableRef{table(2, 1, "a", "b"), table(3, 1, "b", "c")}, Log: 1, Next: 4},
	} {
		expectNoManifest(t, what+" at the beginning", editFrame(e)+first)
		expectNoManifest(t, what+" in the middle", first+editFrame(e)+editFrame(edits[1]))
		expectNoManifest(t, what+" at the end", first+editFrame(e))
	}
	add := impl.Edit{Adds: []impl.TableRef{table(2, 0, "a", "a")}, Log: 1, Next: 3}
	expectNoManifest(t, "the same Add twice", manifestText(add, add))
	expectNoManifest(t, "an old table at the new Next", manifestText(add, impl.Edit{Log: 1, Next: 2}))
	expectNoManifest(t, "a Del of what an edit before has deleted", manifestText(add, impl.Edit{Dels: []int{2}, Log: 1, Next: 3}, impl.Edit{Dels: []int{2}, Log: 1, Next: 3}))
}

func TestManifestOfManyTables(t *testing.T) {
	full := impl.Edit{Adds: tables(1, 1000), Log: 1, Next: 5000}
	more := impl.Edit{Adds: tables(1001, 1), Log: 1, Next: 5000}
	s := editFrame(full)
	expectManifest(t, "1000 in one edit", s, impl.Version{Tables: full.Adds, Log: 1, Next: 5000}, len(s)/64, true)
	expectNoManifest(t, "1001 in two", s+editFrame(more))
	more.Dels = []int{1}
	expectManifest(t, "one more and one less", s+editFrame(more), impl.Version{Tables: tables(2, 1000), Log: 1, Next: 5000}, len(s)/64+1, true)
	one := ""
	for i := range 1000 {
		one += editFrame(impl.Edit{Adds: tables(1+i, 1), Log: 1, Next: 5000})
	}
	expectManifest(t, "1000 edits of one", one, impl.Version{Tables: tables(1, 1000), Log: 1, Next: 5000}, 1000, true)
}

func TestManifestAnswersAreApart(t *testing.T) {
	s := manifestText(story()[:2]...)
	first, _, _ := impl.ReadManifest(s)
	second, _, _ := impl.ReadManifest(s)
	kept := copyVersion(second)
	scribble(first.Tables)
	if !sameVersion(second, kept) {
		t.Error("two answers share memory")
	}
}
