package tests

import (
	"slices"
	"strings"
	"testing"

	"loop.example/s01733/impl"
)

// holding is a directory of these files, each with its name and its Data.
func holding(texts ...string) impl.FS {
	fs := impl.FS{Fuel: -1}
	for i := 0; i < len(texts); i += 2 {
		fs.Files = append(fs.Files, file(texts[i], texts[i+1], 0))
	}
	slices.SortFunc(fs.Files, func(a impl.File, b impl.File) int { return strings.Compare(a.Name, b.Name) })
	return fs
}

func TestDumpOfNoStore(t *testing.T) {
	expectDump(t, "the empty directory", impl.FS{}, "no CURRENT\n")
	manifest := editFrame(impl.Edit{Log: 1, Next: 2})
	expectDump(t, "a manifest without CURRENT", holding("MANIFEST-1", manifest), "no CURRENT\n")
	expectDump(t, "names that are nearly CURRENT", holding("CURREN", "MANIFEST-1", "CURRENT.tmp", "MANIFEST-1", "MANIFEST-1", manifest, "current", "MANIFEST-1"), "no CURRENT\n")
	good := holding("CURRENT", "MANIFEST-1", "MANIFEST-1", manifest)
	expectDump(t, "a store", good, "log 1 next 2 last 0\n")
	for what, hurt := range map[string]func(fs *impl.FS){
		"Quota":   func(fs *impl.FS) { fs.Quota = -1 },
		"Fuel":    func(fs *impl.FS) { fs.Fuel = -2 },
		"order":   func(fs *impl.FS) { slices.Reverse(fs.Files) },
		"Synced":  func(fs *impl.FS) { fs.Files[0].Synced = 11 },
		"a name":  func(fs *impl.FS) { fs.Files = append(fs.Files, file(strings.Repeat("z", 121), "", 0)) },
		"no name": func(fs *impl.FS) { fs.Files = append([]impl.File{{}}, fs.Files...) },
	} {
		fs := copyFS(good)
		hurt(&fs)
		expectDump(t, "not valid by "+what, fs, "invalid\n")
	}
	for _, fuel := range []int{-1, 0, 1, 100} {
		expectDump(t, "dead or alive", withFuel(good, fuel), "log 1 next 2 last 0\n")
	}
}

// notManifests has texts that are nearly the name of a manifest.
func notManifests() []string {
	return []string{
		"", "\n", "MANIFEST", "MANIFEST-", "MANIFEST-0", "MANIFEST-00", "MANIFEST-01", "MANIFEST-001", "MANIFEST-+1", "MANIFEST--1",
		"MANIFEST-1000000000", "MANIFEST-9999999999", "MANIFEST-99999999999999999999", "MANIFEST-18446744073709551617", "MANIFEST-0000000001",
		"MANIFEST-1\n", "MANIFEST-1 ", " MANIFEST-1", "MANIFEST- 1", "MANIFEST-1.", "MANIFEST-1_0", "MANIFEST-0x1", "MANIFEST-1a", "MANIFEST-a", "MANIFEST-1\x00",
		"MANIFEST-\xd9\xa1", "manifest-1", "Manifest-1", "MANIFEST_1", "MANIFEST1", "xMANIFEST-1", "1", "1.log", "1.sst", "CURRENT", "CURRENT.tmp", "lost/MANIFEST-1", "repair.ok",
	}
}

func TestDumpOfCurrent(t *testing.T) {
	manifest := editFrame(impl.Edit{Log: 1, Next: 2})
	for _, current := range notManifests() {
		texts := []string{"CURRENT", current, "MANIFEST-1", manifest}
		expectDump(t, "CURRENT is "+brief(current), holding(texts...), "bad CURRENT\n")
		if current != "" && current != "CURRENT" {
			expectDump(t, "CURRENT is "+brief(current)+", which is there", holding(append(texts, current, manifest)...), "bad CURRENT\n")
		}
	}
	expectDump(t, "a long CURRENT", holding("CURRENT", "MANIFEST-"+strings.Repeat("1", 200), "MANIFEST-1", manifest), "bad CURRENT\n")
	for _, current := range []string{"MANIFEST-1", "MANIFEST-9", "MANIFEST-10", "MANIFEST-123456789", "MANIFEST-999999999"} {
		expectDump(t, current, holding("CURRENT", current, current, manifest), "log 1 next 2 last 0\n")
		expectDump(t, current+" is not there", holding("CURRENT", current, "MANIFEST-2", manifest), "bad CURRENT\n")
	}
}

func TestDumpOfBadManifests(t *testing.T) {
	first := editFrame(impl.Edit{Log: 1, Next: 2})
	for what, data := range map[string]string{
		"empty": "", "a byte": "x", "not whole": first[:63], "another kind": impl.Frame(impl.FrameBatch, editText(impl.Edit{Log: 1, Next: 2})),
		"no edit behind one":                   first + impl.Frame(impl.FrameEdit, "x"),
		"an edit that cannot be applied":       first + editFrame(impl.Edit{Dels: []int{1}, Log: 1, Next: 2}),
		"an edit that cannot be applied, torn": first + editFrame(impl.Edit{Dels: []int{1}, Log: 1, Next: 2}) + "x",
	} {
		expectDump(t, what, holding("CURRENT", "MANIFEST-5", "MANIFEST-5", data, "MANIFEST-4", first), "bad manifest\n")
	}
}

func TestDumpOfTables(t *testing.T) {
	e := impl.Edit{Adds: []impl.TableRef{
		table(12, 0, "a", "b"), table(3, 0, "a", "b"), table(999999998, 3, "a", "b"), table(4, 1, "c", "d"), table(20, 1, "a", "b"),
	}, Log: 8, Next: 999999999, Last: impl.MaxSeq}
	texts := []string{
		"CURRENT", "MANIFEST-8", "MANIFEST-8", editFrame(e),
		"12.sst", strings.Repeat("x", 1234), "4.sst", "", "999999998.sst", "y",
		"020.sst", "zz", "20.log", "zz", "20", "zz", "3.SST", "zz", "lost/3.sst", "zz", "5.sst", "not in the version",
	}
	want := "log 8 next 999999999 last 72057594037927935\n" +
		"table 3 level 0 missing\n" + "table 12 level 0 size 1234\n" +
		"table 4 level 1 size 0\n" + "table 20 level 1 missing\n" + "table 999999998 level 3 size 1\n"
	expectDump(t, "there, empty and missing", holding(texts...), want)
	texts[3] += "\x00"
	expectDump(t, "and torn", holding(texts...), want+"torn\n")
}

func TestDumpOfTornManifests(t *testing.T) {
	edits := story()
	whole := manifestText(edits[0], edits[1])
	one, two := "log 1 next 2 last 0\n", "log 4 next 5 last 20\ntable 2 level 0 missing\ntable 3 level 0 missing\n"
	for cut := 64; cut <= len(whole); cut++ {
		want := one + "torn\n"
		switch cut {
		case 64:
			want = one
		case len(whole):
			want = two
		}
		expectDump(t, "cut", holding("CURRENT", "MANIFEST-1", "MANIFEST-1", whole[:cut]), want)
	}
	for what, end := range map[string]string{
		"a byte": "x", "a page": strings.Repeat("\x00", 64), "another kind": impl.Frame(impl.FrameMark, ""), "a hurt frame and a whole one": withByte(editFrame(edits[0]), 9, 7) + editFrame(edits[0]),
	} {
		expectDump(t, what, holding("CURRENT", "MANIFEST-1", "MANIFEST-1", whole+end), two+"torn\n")
	}
}
