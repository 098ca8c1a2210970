package tests

import (
	"slices"
	"strconv"
	"strings"
	"testing"

	"loop.example/s01733/impl"
)

func TestRepairOfWhatIsNotValid(t *testing.T) {
	list := notValid()
	list["a wreck with fuel -2"] = withFuel(wreck(), -2)
	list["a wreck with quota -1"] = withQuota(wreck(), -1)
	for what, fs := range list {
		if got, code := mended(t, what, fs); code != impl.RunBad || !sameFS(got, impl.FS{}) {
			t.Errorf("%s: code %d and %s", what, code, show(got))
		}
	}
}

// The steps of the third stage, for a table of that size; none if it is 0.
func rebuildSteps(table int, edit int) []string {
	steps := []string{}
	if table > 0 {
		steps = append(steps, "create 1.sst", "append 1.sst "+strconv.Itoa(table), "sync 1.sst")
	}
	return append(steps, "create 2.log", "create MANIFEST-3", "append MANIFEST-3 "+strconv.Itoa(edit), "sync MANIFEST-3",
		"create CURRENT.tmp", "append CURRENT.tmp 10", "sync CURRENT.tmp", "rename CURRENT.tmp CURRENT", "remove repair.go", "remove repair.tab")
}

func saveSteps(table int) []string {
	return []string{"create repair.tab", "append repair.tab " + strconv.Itoa(table), "sync repair.tab", "create repair.tmp", "append repair.tmp 64", "sync repair.tmp", "rename repair.tmp repair.ok"}
}

func archiveSteps(names ...string) []string {
	steps := []string{}
	for i := 0; i < len(names); i += 2 {
		steps = append(steps, "rename "+names[i]+" "+names[i+1])
	}
	return append(steps, "rename repair.ok repair.go")
}

func expectRepairSteps(t *testing.T, what string, fs impl.FS, code int, stages ...[]string) impl.FS {
	t.Helper()
	o := expectSteps(t, what, fs, nil, opRepair, code, slices.Concat(stages...)...)
	want, _ := expectMended(t, what, fs)
	if !slices.Equal(o.Fs.Files, want.Files) {
		t.Errorf("%s: an operation leaves another directory than the call", what)
	}
	return o.Fs
}

func TestRepairStepsOfNothing(t *testing.T) {
	fs := expectRepairSteps(t, "nothing", emptyDir(), impl.RunOk, saveSteps(128), archiveSteps(), rebuildSteps(0, 64))
	expectCheck(t, "nothing", fs, impl.CheckOk)
	expectDump(t, "nothing", fs, "log 2 next 4 last 0\n")
	expectPeek(t, "nothing", fs, impl.RunOk, "")
	if fileOf(fs, "2.log") != file("2.log", "", 0) || fileOf(fs, "CURRENT") != file("CURRENT", "MANIFEST-3", 10) {
		t.Errorf("nothing: %s", show(fs))
	}
}

func TestRepairStepsOfAWreck(t *testing.T) {
	lost := archiveSteps("1.log", "lost/1.log", "CURRENT", "lost/CURRENT", "any name", "lost/any name", "zz", "lost/zz")
	syncs := []string{"sync CURRENT", "sync any name", "sync lost/old"}
	fs := expectRepairSteps(t, "a wreck", wreck(), impl.RunOk, syncs, saveSteps(192), lost, rebuildSteps(192, 64))
	expectCheck(t, "a wreck", fs, impl.CheckOk)
	expectDump(t, "a wreck", fs, "log 2 next 4 last 9\ntable 1 level 1 size 192\n")
	expectPeek(t, "a wreck", fs, impl.RunOk, "a=five c=three")
	for _, f := range wreck().Files {
		if !inArchive(f.Name) {
			f.Name = "lost/" + f.Name
		}
		if f.Synced = len(f.Data); fileOf(fs, f.Name) != f {
			t.Errorf("%s is %s", f.Name, brief(fileOf(fs, f.Name).Data))
		}
	}
	rubbish := withFile(withFile(withFile(withFile(wreck(), "repair.", ""), "repair.go", markOf(7)), "repair.ok", "x"), "repair.zz", tab())
	removals := []string{"remove repair.", "remove repair.go", "remove repair.ok", "remove repair.zz"}
	again := expectRepairSteps(t, "a wreck with rubbish", rubbish, impl.RunOk, removals, syncs, saveSteps(192), lost, rebuildSteps(192, 64))
	if !slices.Equal(again.Files, fs.Files) {
		t.Errorf("with rubbish it leaves %s", names(again))
	}
}

func TestRepairGoesOnFromItsMark(t *testing.T) {
	lost := archiveSteps("1.log", "lost/1.log", "CURRENT", "lost/CURRENT", "any name", "lost/any name", "zz", "lost/zz")
	fs := expectRepairSteps(t, "saved", marked("repair.ok", markOf(77), "repair.tab", tab()), impl.RunOk, lost, rebuildSteps(192, 64))
	expectDump(t, "saved", fs, "log 2 next 4 last 77\ntable 1 level 1 size 192\n")
	expectPeek(t, "saved", fs, impl.RunOk, "s=saved t=too")
	expectCheck(t, "saved", fs, impl.CheckOk)

	// In the third stage what lies outside the archive is the repairer's own.
	fs = expectRepairSteps(t, "archived", withoutFile(marked("repair.go", markOf(78), "repair.tab", tab()), "CURRENT"), impl.RunOk, rebuildSteps(192, 64))
	expectDump(t, "archived", fs, "log 2 next 4 last 78\ntable 1 level 1 size 192\n")
	expectPeek(t, "archived", fs, impl.RunOk, "s=saved t=too")
	if names(fs) != "1.log 1.sst 2.log CURRENT MANIFEST-3 any name lost/old zz" {
		t.Errorf("archived: %s", names(fs))
	}

	none := expectRepairSteps(t, "saved, no pair", marked("repair.ok", markOf(77), "repair.tab", sst()), impl.RunOk, lost, rebuildSteps(0, 64))
	expectDump(t, "saved, no pair", none, "log 2 next 4 last 77\n")
	expectPeek(t, "saved, no pair", none, impl.RunOk, "")
	none = expectRepairSteps(t, "archived, no pair", roomy("lost/a", "x", "repair.go", markOf(0), "repair.tab", sst()), impl.RunOk, rebuildSteps(0, 64))
	expectDump(t, "archived, no pair", none, "log 2 next 4 last 0\n")

	// A mark in the way of the mark is gone; what else is the repairer's stays.
	fs = expectNames(t, "a bad mark in the way", marked("repair.go", "x", "repair.ok", markOf(77), "repair.tab", tab(), "repair.tmp", "x", "repair.x", "x"), impl.RunOk,
		"1.sst 2.log CURRENT MANIFEST-3 lost/1.log lost/CURRENT lost/any name lost/old lost/zz repair.tmp repair.x")
	expectCheck(t, "a bad mark in the way", fs, impl.CheckRepair)
	fs = expectNames(t, "both marks", roomy("repair.go", markOf(5), "repair.ok", markOf(77), "repair.tab", tab()), impl.RunOk, "1.sst 2.log CURRENT MANIFEST-3 repair.ok")
	expectDump(t, "both marks", fs, "log 2 next 4 last 5\ntable 1 level 1 size 192\n")
}

// The third stage takes the table as it lies.
func TestRepairTakesTheTableAsItLies(t *testing.T) {
	for what, es := range goodTabs() {
		for _, n := range []int{0, 2, 1000, impl.MaxSeq} {
			what := what + " " + strconv.Itoa(n)
			for _, mark := range []string{"repair.ok", "repair.go"} {
				fs, code := expectMended(t, what, roomy(mark, markOf(n), "repair.tab", sst(es...)))
				if code != impl.RunOk || fileOf(fs, "1.sst").Data != "" && fileOf(fs, "1.sst").Data != sst(es...) {
					t.Errorf("%s: code %d", what, code)
				}
				e := impl.Edit{Log: 2, Next: 4, Last: n}
				if len(es) > 0 {
					e.Adds = []impl.TableRef{table(1, 1, es[0].Key, es[len(es)-1].Key)}
				}
				if fileOf(fs, "MANIFEST-3").Data != editFrame(e) {
					t.Errorf("%s: %s", what, impl.Dump(fs))
				}
			}
		}
	}
}

// A mark that is not good begins nothing: all is saved anew.
func TestRepairWithoutAGoodMark(t *testing.T) {
	want, _ := impl.Repair(marked())
	expectPeek(t, "anew", want, impl.RunOk, "a=five c=three")
	expect := func(what string, texts ...string) {
		t.Helper()
		if got, code := expectMended(t, what, marked(texts...)); code != impl.RunOk || !sameFS(got, want) {
			t.Errorf("%s: code %d and %s", what, code, names(got))
		}
	}
	for what, data := range notMarks() {
		expect(what, "repair.ok", data, "repair.tab", tab())
		expect(what, "repair.go", data, "repair.tab", tab())
		expect(what+" twice", "repair.go", data, "repair.ok", data, "repair.tab", tab(), "repair.tmp", markOf(7))
	}
	for what, data := range notTabs() {
		expect(what, "repair.ok", markOf(77), "repair.tab", data)
		expect(what, "repair.go", markOf(77), "repair.tab", data)
	}
	for _, data := range []string{"", "x", markOf(77), markOf(77)[:63], tab(), logText(entries(put("a", 99, "99")))} {
		expect("all of them are "+brief(data), "repair.", data, "repair.tmp", data, "repair.x", data, "repair."+long(113), data)
		expect("no table beside "+brief(data), "repair.go", data, "repair.ok", data)
		expect("a table alone", "repair.tab", data)
	}
}

func TestRepairNamesOfASize(t *testing.T) {
	begins := []struct {
		what  string
		texts []string
		stage int
	}{
		{"the first stage", nil, 1}, {"the first stage, with bad marks", []string{"repair.go", "x", "repair.ok", markOf(1)}, 1},
		{"the second stage", []string{"repair.ok", markOf(1), "repair.tab", tab()}, 2}, {"the third stage", []string{"repair.go", markOf(1), "repair.tab", tab()}, 3},
		{"the third stage, with both marks", []string{"repair.go", markOf(1), "repair.ok", markOf(1), "repair.tab", tab()}, 3},
	}
	for _, b := range begins {
		for _, size := range []int{99, 100, 101, 119, 120} {
			for _, begin := range []string{"", "lost/", "repair.", "lost", "repair", "Lost/", "x.lost/", " repair."} {
				name := begin + long(size-len(begin))
				outside := begin != "lost/" && begin != "repair."
				fs := withFuel(withFile(marked(b.texts...), name, "x"), 1000)
				what := b.what + ", " + strconv.Itoa(size) + " bytes, " + begin
				got, code := expectMended(t, what, fs)
				if bad := outside && size > 100 && b.stage < 3; bad != (code == impl.RunBad) || bad && !sameFS(got, fs) || !bad && code != impl.RunOk {
					t.Errorf("%s: code %d and %s", what, code, show(got))
				}
			}
		}
	}
	// Also without fuel: that takes no step.
	for _, fuel := range []int{-1, 0, 1} {
		fs := withFuel(roomy(long(101), "x"), fuel)
		if got, code := mended(t, "no fuel", fs); code != impl.RunBad || !sameFS(got, fs) {
			t.Errorf("fuel %d: code %d", fuel, code)
		}
	}
	fs := expectNames(t, "100 bytes, and taken", roomy(long(100), "x", "lost/"+long(100), "y", "lost/"+long(100)+".1", "z"), impl.RunOk,
		strings.Join([]string{"2.log", "CURRENT", "MANIFEST-3", "lost/" + long(100), "lost/" + long(100) + ".1", "lost/" + long(100) + ".2"}, " "))
	if fileOf(fs, "lost/"+long(100)+".2").Data != "x" {
		t.Errorf("100 bytes, and taken: %s", show(fs))
	}
}

// archived gives what is in the archive: each name and its Data.
func archived(fs impl.FS) string {
	s := ""
	for _, f := range fs.Files {
		if inArchive(f.Name) {
			s += " " + strings.TrimPrefix(f.Name, "lost/") + "=" + f.Data
		}
	}
	return strings.TrimPrefix(s, " ")
}

func TestRepairNamesThatAreTaken(t *testing.T) {
	for _, c := range []struct {
		fs   impl.FS
		want string
	}{
		{roomy("a", "0"), "a=0"},
		{roomy("a", "0", "lost/a", "1"), "a=1 a.1=0"},
		{roomy("a", "0", "lost/a.1", "1"), "a=0 a.1=1"},
		{roomy("a", "0", "lost/a", "1", "lost/a.1", "2"), "a=1 a.1=2 a.2=0"},
		{roomy("a", "0", "lost/a", "1", "lost/a.2", "2"), "a=1 a.1=0 a.2=2"},
		{roomy("a", "0", "lost/a", "1", "lost/a.0", "2", "lost/a.01", "3"), "a=1 a.0=2 a.01=3 a.1=0"},
		{roomy("a", "0", "a.1", "1"), "a=0 a.1=1"},
		{roomy("a", "0", "a.1", "1", "lost/a", "2"), "a=2 a.1=0 a.1.1=1"},
		{roomy("a", "0", "a.1", "1", "a.1.1", "2", "lost/a", "3"), "a=3 a.1=0 a.1.1=1 a.1.1.1=2"},
		{roomy("a", "0", "a.1", "1", "lost/a", "2", "lost/a.1", "3"), "a=2 a.1=3 a.1.1=1 a.2=0"},
		{roomy("1.log", "0", "CURRENT", "1", "lost/1.log", "2", "lost/CURRENT", "3", "lost/CURRENT.1", "4"), "1.log=2 1.log.1=0 CURRENT=3 CURRENT.1=4 CURRENT.2=1"},
		{roomy("lost", "0", "lost/", "1", "lost/lost", "2"), "=1 lost=2 lost.1=0"},
	} {
		fs, code := expectMended(t, names(c.fs), c.fs)
		if code != impl.RunOk || archived(fs) != c.want {
			t.Errorf("%s: code %d, the archive is %s, want %s", names(c.fs), code, archived(fs), c.want)
		}
	}
	fs := roomy("a", "here", "lost/a", "old")
	for n := 1; n < 120; n++ {
		if n != 105 {
			fs = withFile(fs, "lost/a."+strconv.Itoa(n), "x")
		}
	}
	if got, code := expectMended(t, "many are taken", fs); code != impl.RunOk || fileOf(got, "lost/a.105").Data != "here" {
		t.Errorf("many are taken: code %d and %s", code, names(got))
	}
}

// The same names again and again: each repair puts a store beside those before.
func TestRepairAgainAndAgain(t *testing.T) {
	fs := roomy("a.log", logText(entries(put("k", 3, "v"))))
	for n := range 30 {
		got, code := expectMended(t, "again", fs)
		if code != impl.RunOk || pairsAt(got) != "0 k=v" {
			t.Fatalf("repair %d: code %d, %s", n, code, pairsAt(got))
		}
		if n >= 2 && fileOf(got, "lost/CURRENT."+strconv.Itoa(n-1)).Data != "MANIFEST-3" {
			t.Fatalf("repair %d: %s", n, names(got))
		}
		fs = got
	}
}
