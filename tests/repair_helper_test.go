package tests

import (
	"slices"
	"strconv"
	"strings"
	"testing"

	"loop.example/s01733/impl"
)

// sample is a directory and what it is for.
type sample struct {
	what string
	fs   impl.FS
}

func tellEntries(es []impl.Entry) string {
	list := []string{}
	for i, e := range es {
		if i == 12 {
			list = append(list, "..")
			break
		}
		if e.Kind == impl.KindDelete {
			list = append(list, brief(e.Key)+"@"+strconv.Itoa(e.Seq)+"-")
		} else {
			list = append(list, brief(e.Key)+"@"+strconv.Itoa(e.Seq)+"="+brief(e.Val))
		}
	}
	return strings.Join(list, " ")
}

// view asks for the view, and looks at whether what was given is as it was, and
// whether writing into that shows in the answer.
func view(t *testing.T, what string, fs impl.FS) impl.Salvaged {
	t.Helper()
	given := copyFS(fs)
	got := impl.View(given)
	if !sameFS(given, fs) {
		t.Errorf("%s: View changed its argument", what)
	}
	kept := slices.Clone(got.Entries)
	scribbleGiven(given, nil)
	again := impl.View(fs)
	if !slices.Equal(got.Entries, kept) || !slices.Equal(again.Entries, kept) || again.Last != got.Last {
		t.Errorf("%s: View answers otherwise the second time", what)
	}
	whole := again.Entries[:cap(again.Entries)]
	for i := range whole {
		whole[i] = put("written by the test", 9, "x")
	}
	if !slices.Equal(got.Entries, kept) {
		t.Errorf("%s: two answers of View share memory", what)
	}
	return got
}

func expectView(t *testing.T, what string, fs impl.FS, last int, want ...impl.Entry) {
	t.Helper()
	got := view(t, what, fs)
	if got.Last != last || !slices.Equal(got.Entries, want) {
		t.Errorf("%s: View gave last %d and %s\nwant last %d and %s", what, got.Last, tellEntries(got.Entries), last, tellEntries(want))
	}
}

// mended repairs, and looks at what holds for every repair: a valid directory,
// nothing written into what was given, no memory in common, and the quota as it
// was.
func mended(t *testing.T, what string, fs impl.FS) (impl.FS, int) {
	t.Helper()
	given := copyFS(fs)
	got, code := impl.Repair(given)
	if !sameFS(given, fs) {
		t.Errorf("%s: Repair changed its argument", what)
	}
	if impl.ValidFS(fs) && (!impl.ValidFS(got) || got.Quota != fs.Quota) {
		t.Errorf("%s: Repair gave %s", what, show(got))
	}
	kept := copyFS(got)
	scribbleGiven(given, nil)
	if !sameFS(got, kept) {
		t.Errorf("%s: the answer changes with what was given", what)
	}
	again, againCode := impl.Repair(fs)
	if !sameFS(again, kept) || againCode != code {
		t.Errorf("%s: the same call answers otherwise", what)
	}
	expectApart(t, what, fs, again)
	if !sameFS(got, kept) {
		t.Errorf("%s: two answers share memory", what)
	}
	return got, code
}

// expectMended holds a repair against the document told once more.
func expectMended(t *testing.T, what string, fs impl.FS) (impl.FS, int) {
	t.Helper()
	got, code := mended(t, what, fs)
	want, wantCode := plainRepair(fs)
	if code != wantCode || !sameFS(got, want) {
		t.Errorf("%s: Repair gave code %d %s\nwant code %d %s", what, code, show(got), wantCode, show(want))
	}
	return got, code
}

// expectNames looks at the code and at which files there are.
func expectNames(t *testing.T, what string, fs impl.FS, code int, want string) impl.FS {
	t.Helper()
	got, gotCode := expectMended(t, what, fs)
	if gotCode != code || names(got) != want {
		t.Errorf("%s: code %d and files %s\nwant %d and %s", what, gotCode, names(got), code, want)
	}
	return got
}

// stepsToMend is how many steps a repair takes that is not cut short.
func stepsToMend(t *testing.T, fs impl.FS) int {
	t.Helper()
	for n := 0; ; n++ {
		if _, code := impl.Repair(withFuel(fs, n)); code != impl.RunDead {
			return n
		}
		if n > 1000 {
			t.Fatalf("a repair takes more than %d steps", n)
		}
	}
}

// pairsAt is what Peek finds, told in a line.
func pairsAt(fs impl.FS) string {
	pairs, code := impl.Peek(fs)
	if code != impl.RunOk {
		return "code " + strconv.Itoa(code)
	}
	return tell(impl.Answer{Pairs: pairs})
}

// pairsIn is the pairs that a view has saved, told in the same way.
func pairsIn(v impl.Salvaged) string {
	return tell(impl.Answer{Pairs: plainPairs(v.Entries)})
}

// wreck is no store, but has frames in files of any names, some of them not
// synced; one is in the archive.
func wreck() impl.FS {
	a, z := logText(entries(put("a", 5, "five"))), logText(entries(put("z", 50, "archived")))
	zz := blockText(entries(put("b", 7, "seven"), put("c", 3, "three"))) + batch("no entries") + logText(entries(del("b", 9))) + editFrame(impl.Edit{Log: 1, Next: 2})
	return dir(100000, -1, file("1.log", "junk", 4), file("CURRENT", "MANIFEST-1", 0), file("any name", a+"x"+a, 3), file("lost/old", z, 0), file("zz", zz, len(zz)))
}

// tab is a table that a run before may have saved.
func tab() string {
	return sst(put("s", 3, "saved"), put("t", 4, "too"))
}

// roomy is a directory with room for a repair: each file with its name and its
// Data.
func roomy(texts ...string) impl.FS {
	fs := emptyDir()
	for i := 0; i < len(texts); i += 2 {
		fs = withFile(fs, texts[i], texts[i+1])
	}
	return fs
}

// marked is a directory in which a run before has left its files: each with its
// name and its Data.
func marked(texts ...string) impl.FS {
	fs := impl.FsCrash(wreck(), []int{999, 999, 999, 999, 999})
	for i := 0; i < len(texts); i += 2 {
		fs = withFile(fs, texts[i], texts[i+1])
	}
	return fs
}
