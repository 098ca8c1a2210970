package tests

import (
	"slices"
	"strconv"
	"strings"
	"testing"

	"loop.example/s01733/impl"
)

// begins has directories in which a repair begins with each stage, and has
// something to do at each of its steps.
func begins() []sample {
	rubbish := wreck()
	for _, name := range []string{"repair.", "repair.go", "repair.ok", "repair.tab", "repair.tmp"} {
		rubbish = withFile(rubbish, name, "rubbish")
	}
	own := withFile(marked("repair.go", markOf(77), "repair.tab", tab()), "lost/CURRENT", "x")
	for _, name := range []string{"1.sst", "2.log", "CURRENT.tmp", "MANIFEST-3"} {
		own = withFile(own, name, "what a run before has written")
	}
	return []sample{
		{"nothing", emptyDir()},
		{"a wreck", wreck()},
		{"a wreck with rubbish", rubbish},
		{"deletions alone", roomy("a", logText(entries(del("k", 7))), "lost/a", "x")},
		{"saved", marked("repair.ok", markOf(77), "repair.tab", tab())},
		{"saved, no pair", marked("repair.ok", markOf(77), "repair.tab", sst())},
		{"saved, and some are in the archive", withoutFile(marked("lost/1.log", "junk", "repair.ok", markOf(77), "repair.tab", tab()), "1.log")},
		{"archived", roomy("lost/1.log", "junk", "repair.go", markOf(77), "repair.tab", tab())},
		{"archived, no pair", roomy("lost/1.log", "junk", "repair.go", markOf(77), "repair.tab", sst())},
		{"archived, and begun to rebuild", own},
	}
}

// growth is how many bytes a repair adds at most.
func growth(fs impl.FS) int {
	return totalOf(fs) + 3000
}

func TestRepairDiesAtEachStep(t *testing.T) {
	for _, s := range begins() {
		steps := stepsToMend(t, s.fs)
		if steps < 10 {
			t.Errorf("%s: only %d steps", s.what, steps)
		}
		for n := range steps + 3 {
			what := s.what + ", fuel " + strconv.Itoa(n)
			got, code := expectMended(t, what, withFuel(s.fs, n))
			wantCode := impl.RunOk
			if n < steps {
				wantCode = impl.RunDead
			}
			if code != wantCode || got.Fuel != max(0, n-steps) {
				t.Errorf("%s: code %d and fuel %d", what, code, got.Fuel)
			}
		}
	}
}

// expectFull looks at what a repair leaves that found no room.
func expectFull(t *testing.T, what string, fs impl.FS, got impl.FS) {
	t.Helper()
	if firstStageOf(got) == 1 {
		for _, f := range got.Files {
			if ofRepairer(f.Name) || f.Synced != len(f.Data) || fileOf(fs, f.Name).Data != f.Data {
				t.Errorf("%s: %s is %s, synced %d", what, f.Name, brief(f.Data), f.Synced)
			}
		}
	}
	if view := plainView(got); pairsIn(view) != pairsIn(plainView(fs)) || view.Last != plainView(fs).Last {
		t.Errorf("%s: %s is to be saved, want %s", what, pairsIn(view), pairsIn(plainView(fs)))
	}
	again, code := expectMended(t, what+", and room", withQuota(got, impl.MaxTotal))
	want, _ := impl.Repair(withQuota(fs, impl.MaxTotal))
	if code != impl.RunOk || !slices.Equal(again.Files, want.Files) {
		t.Errorf("%s, and room: code %d and %s, want %s", what, code, names(again), names(want))
	}
}

func TestRepairEveryQuota(t *testing.T) {
	for _, s := range begins() {
		full := 0
		for quota := range growth(s.fs) {
			// Between the edges nothing changes; a step of 7 finds each of them
			// from some side, and the edges themselves are looked at elsewhere.
			if quota%7 != 0 {
				continue
			}
			fs := withQuota(s.fs, quota)
			what := s.what + ", quota " + strconv.Itoa(quota)
			got, code := expectMended(t, what, fs)
			switch code {
			case impl.RunOk:
			case impl.RunFull:
				full++
				expectFull(t, what, fs, got)
			default:
				t.Errorf("%s: code %d", what, code)
			}
		}
		if full < 20 {
			t.Errorf("%s: only %d quotas end it", s.what, full)
		}
	}
}

// stuffed is the directory with files in the archive beside, so that it has n.
func stuffed(fs impl.FS, n int) impl.FS {
	for i := 0; len(fs.Files) < n; i++ {
		fs = withFile(fs, "lost/f"+strconv.Itoa(1000+i), "")
	}
	return fs
}

func TestRepairEveryNumberOfFiles(t *testing.T) {
	for _, s := range begins() {
		full := 0
		for n := 190; n <= 200; n++ {
			fs := stuffed(s.fs, n)
			what := s.what + ", " + strconv.Itoa(n) + " files"
			got, code := expectMended(t, what, fs)
			if code != impl.RunFull {
				if code != impl.RunOk {
					t.Errorf("%s: code %d", what, code)
				}
				continue
			}
			full++
			room := func(fs impl.FS) impl.FS {
				fs = copyFS(fs)
				fs.Files = slices.DeleteFunc(fs.Files, func(f impl.File) bool { return strings.HasPrefix(f.Name, "lost/f101") })
				return fs
			}
			expectFull(t, what, room(fs), room(got))
		}
		if full == 0 && !strings.Contains(s.what, "begun to rebuild") {
			t.Errorf("%s: no number of files ends it", s.what)
		}
	}
}

// A repair that gives up takes steps too, and may die at each of them.
func TestRepairDiesWhereThereIsNoRoom(t *testing.T) {
	for _, s := range begins() {
		list := []impl.FS{}
		for quota := 0; quota < growth(s.fs); quota += 31 {
			list = append(list, withQuota(s.fs, quota))
		}
		for n := 194; n <= 200; n++ {
			list = append(list, stuffed(s.fs, n))
		}
		for _, fs := range list {
			for n := range stepsToMend(t, fs) + 1 {
				got, code := impl.Repair(withFuel(fs, n))
				want, wantCode := plainRepair(withFuel(fs, n))
				if code != wantCode || !sameFS(got, want) {
					t.Fatalf("%s, quota %d, %d files, fuel %d: code %d %s\nwant %d %s", s.what, fs.Quota, len(fs.Files), n, code, show(got), wantCode, show(want))
				}
			}
		}
	}
}

// cutShort is the first n of the steps, and then others.
func cutShort(steps []string, last string, others ...string) []string {
	return append(slices.Clone(steps[:slices.Index(steps, last)+1]), others...)
}

// The steps of giving up, each edge by itself. A dash is a step that is refused.
func TestRepairStepsWhereBytesEnd(t *testing.T) {
	fs := roomy("a", logText(entries(put("k", 5, "v"))))
	all := slices.Concat(saveSteps(192), archiveSteps("a", "lost/a"), rebuildSteps(192, 64))
	need := 64
	for _, c := range []struct {
		more   int
		last   string
		others []string
	}{
		{192, "create repair.tab", []string{"-", "remove repair.tab"}},
		{64, "create repair.tmp", []string{"-", "remove repair.tab", "remove repair.tmp"}},
		{192, "create 1.sst", []string{"-"}},
		{64, "create MANIFEST-3", []string{"-"}},
		{10, "create CURRENT.tmp", []string{"-"}},
	} {
		for _, quota := range []int{need, need + 1, need + c.more - 1} {
			expectRepairSteps(t, c.last+" and quota "+strconv.Itoa(quota), withQuota(fs, quota), impl.RunFull, cutShort(all, c.last, c.others...))
		}
		need += c.more
	}
	expectRepairSteps(t, "just enough", withQuota(fs, need), impl.RunOk, all)
	if need != 586 {
		t.Errorf("it needs %d bytes", need)
	}
}

func TestRepairStepsWhereFilesEnd(t *testing.T) {
	all := slices.Concat(saveSteps(192), archiveSteps("a", "lost/a"), rebuildSteps(192, 64))
	for _, c := range []struct {
		files  int
		last   string
		others []string
	}{
		{200, "", []string{"-"}}, {199, "sync repair.tab", []string{"-", "remove repair.tab"}}, {198, "rename repair.ok repair.go", []string{"-"}},
		{197, "sync 1.sst", []string{"-"}}, {196, "create 2.log", []string{"-"}}, {195, "sync MANIFEST-3", []string{"-"}},
	} {
		fs := stuffed(roomy("a", logText(entries(put("k", 5, "v")))), c.files)
		expectRepairSteps(t, strconv.Itoa(c.files)+" files", fs, impl.RunFull, cutShort(all, c.last, c.others...))
	}
	expectRepairSteps(t, "194 files", stuffed(roomy("a", logText(entries(put("k", 5, "v")))), 194), impl.RunOk, all)
	// What is there already needs no room.
	own := stuffed(roomy("2.log", "old", "CURRENT.tmp", "old", "MANIFEST-3", "old", "repair.go", markOf(5), "repair.tab", sst()), 200)
	expectRepairSteps(t, "200 files, all there", own, impl.RunOk, []string{"change 2.log", "change MANIFEST-3", "append MANIFEST-3 64", "sync MANIFEST-3",
		"change CURRENT.tmp", "append CURRENT.tmp 10", "sync CURRENT.tmp", "rename CURRENT.tmp CURRENT", "remove repair.go", "remove repair.tab"})
	// The repairer's own files make room when they are removed.
	rubbish := stuffed(roomy("a", logText(entries(put("k", 5, "v"))), "repair.1", "", "repair.2", "", "repair.3", "", "repair.4", "", "repair.5", "", "repair.6", ""), 200)
	removals := []string{"remove repair.1", "remove repair.2", "remove repair.3", "remove repair.4", "remove repair.5", "remove repair.6"}
	expectRepairSteps(t, "200 files with rubbish", rubbish, impl.RunOk, removals, all)
}

// All Data together may not be more than MaxTotal, whatever the quota.
func TestRepairWhereTheTotalEnds(t *testing.T) {
	a := logText(entries(put("k", 5, "v")))
	fs := roomy("a", a, "lost/x", strings.Repeat("x", impl.MaxTotal-64-191))
	expectNames(t, "no room for the table", fs, impl.RunFull, "a lost/x")
	fs = roomy("a", a, "lost/x", strings.Repeat("x", impl.MaxTotal-586))
	expectNames(t, "no room for CURRENT", withFile(fs, "b", "x"), impl.RunFull, "1.sst 2.log CURRENT.tmp MANIFEST-3 lost/a lost/b lost/x repair.go repair.tab")
	expectNames(t, "just enough", fs, impl.RunOk, "1.sst 2.log CURRENT MANIFEST-3 lost/a lost/x")
	// More than the quota may lie there: then nothing can grow.
	expectNames(t, "above the quota", withQuota(fs, 1000), impl.RunFull, "a lost/x")
}
