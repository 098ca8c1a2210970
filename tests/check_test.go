package tests

import (
	"strconv"
	"strings"
	"testing"

	"loop.example/s01733/impl"
)

// tidy is a store that a checker finds in order: what house is, with one log.
func tidy() impl.FS {
	return withFile(withoutFile(house(), "7.log"), "notes", "x")
}

func expectCheck(t *testing.T, what string, fs impl.FS, want int) {
	t.Helper()
	before := copyFS(fs)
	if got := impl.Check(fs); got != want {
		t.Errorf("%s: Check gave %d, want %d", what, got, want)
	}
	if !sameFS(fs, before) {
		t.Errorf("%s: Check changed its argument", what)
	}
}

func TestCheckOfWhatIsInOrder(t *testing.T) {
	expectCheck(t, "a store", tidy(), impl.CheckOk)
	expectCheck(t, "a store without fuel", withFuel(tidy(), 0), impl.CheckOk)
	expectCheck(t, "an empty log", withFile(tidy(), "5.log", ""), impl.CheckOk)
	fs := tidy()
	for _, name := range nearNames() {
		fs = withFile(fs, name, "x")
	}
	expectCheck(t, "files that have no store name", fs, impl.CheckOk)
	for i := range life() {
		o := impl.Exec(emptyDir(), then(life()[:i+1], opClose))
		expectCheck(t, "closed behind operation "+strconv.Itoa(i), o.Fs, impl.CheckOk)
	}
}

func TestCheckOfDirectories(t *testing.T) {
	for what, fs := range notValid() {
		expectCheck(t, what, fs, impl.CheckInvalid)
	}
	expectCheck(t, "nothing", emptyDir(), impl.CheckCurrent)
	for _, name := range []string{"repair.", "repair.ok", "repair.x"} {
		expectCheck(t, name, withFile(tidy(), name, ""), impl.CheckRepair)
		expectCheck(t, name+" alone", withFile(emptyDir(), name, ""), impl.CheckRepair)
	}
	for _, current := range notManifests() {
		expectCheck(t, "CURRENT is "+brief(current), withFile(tidy(), "CURRENT", current), impl.CheckCurrent)
	}
	expectCheck(t, "no CURRENT", withoutFile(tidy(), "CURRENT"), impl.CheckCurrent)
	expectCheck(t, "no manifest", withoutFile(tidy(), "MANIFEST-4"), impl.CheckCurrent)
}

func TestCheckOfTheManifest(t *testing.T) {
	good := fileOf(tidy(), "MANIFEST-4").Data
	for what, data := range map[string]string{
		"empty": "", "a byte": "x", "cut": good[:len(good)-1], "torn": good + "x", "a page more": good + strings.Repeat("\x00", 64), "another kind": good + impl.Frame(impl.FrameMark, ""),
		"no edit": good + impl.Frame(impl.FrameEdit, "x"),
	} {
		expectCheck(t, what, withFile(tidy(), "MANIFEST-4", data), impl.CheckManifest)
	}
}

func TestCheckOfTables(t *testing.T) {
	for _, name := range []string{"2.sst", "3.sst"} {
		good := fileOf(tidy(), name).Data
		expectCheck(t, name+" is gone", withoutFile(tidy(), name), impl.CheckTable)
		for _, data := range []string{"", good[:64], good + "x", sst(), sst(put("q", 1, "")), withByte(good, 70, 7)} {
			expectCheck(t, name+" is "+brief(data), withFile(tidy(), name, data), impl.CheckTable)
		}
	}
	expectCheck(t, "a Seq above Last", withFile(tidy(), "2.sst", sst(put("a", 11, ""), del("c", 9))), impl.CheckTable)
	expectCheck(t, "a Seq at Last", withFile(tidy(), "2.sst", sst(put("a", 10, ""), del("c", 9))), impl.CheckOk)
	expectCheck(t, "another first key", withFile(tidy(), "2.sst", sst(put("b", 10, ""), del("c", 9))), impl.CheckTable)
	expectCheck(t, "another last key", withFile(tidy(), "2.sst", sst(put("a", 10, ""), del("d", 9))), impl.CheckTable)
}

// One table of many is enough, wherever it stands.
func TestCheckOfManyTables(t *testing.T) {
	e := impl.Edit{Log: 900, Next: 901, Last: 9}
	fs := withFile(emptyDir(), "900.log", "")
	for i := range 150 {
		e.Adds = append(e.Adds, table(i+1, i%2, strconv.Itoa(1000+i), strconv.Itoa(1000+i)))
		fs = withFile(fs, strconv.Itoa(i+1)+".sst", sst(put(strconv.Itoa(1000+i), 9, "")))
	}
	fs = withFile(withFile(fs, "CURRENT", "MANIFEST-1"), "MANIFEST-1", editFrame(e))
	expectCheck(t, "150 tables", fs, impl.CheckOk)
	for i := range 150 {
		name := strconv.Itoa(i+1) + ".sst"
		expectCheck(t, name+" is hurt", withFile(fs, name, sst(put("x", 9, ""))), impl.CheckTable)
		expectCheck(t, name+" is gone", withoutFile(fs, name), impl.CheckTable)
	}
}

func TestCheckOfTheLog(t *testing.T) {
	good := fileOf(tidy(), "5.log").Data
	expectCheck(t, "gone", withoutFile(tidy(), "5.log"), impl.CheckLog)
	one := func(seq int) string { return logText(entries(put("q", seq, "q"))) }
	for what, data := range map[string]string{
		"torn": good + "x", "a page more": good + strings.Repeat("\x00", 64), "cut": good[:100], "a byte": "x", "another kind": impl.Frame(impl.FrameEdit, "x"),
		"no entries": batch(entriesText(nil)), "no batch": batch("x"), "the first Seq is Last": one(10), "the first Seq is Last + 2": one(12), "a Seq twice": one(11) + one(11), "a Seq passed over": one(11) + one(13),
	} {
		expectCheck(t, what, withFile(tidy(), "5.log", data), impl.CheckLog)
	}
	expectCheck(t, "two Seqs", withFile(tidy(), "5.log", one(11)+one(12)), impl.CheckOk)
}

func TestCheckOfStrays(t *testing.T) {
	for _, name := range []string{"1.log", "4.log", "6.log", "7.log", "999999999.log", "1.sst", "5.sst", "7.sst", "MANIFEST-3", "MANIFEST-5", "CURRENT.tmp"} {
		expectCheck(t, name, withFile(tidy(), name, ""), impl.CheckStray)
	}
}

// The first that applies is told, whatever comes behind it.
func TestCheckTellsTheFirst(t *testing.T) {
	fs := withFile(tidy(), "1.log", "")
	for _, c := range []struct {
		name string
		want int
	}{{"5.log", impl.CheckLog}, {"3.sst", impl.CheckTable}, {"MANIFEST-4", impl.CheckManifest}, {"CURRENT", impl.CheckCurrent}, {"repair.x", impl.CheckRepair}} {
		fs = withFile(fs, c.name, "x")
		expectCheck(t, c.name, fs, c.want)
	}
	fs.Quota = -1
	expectCheck(t, "not valid", fs, impl.CheckInvalid)
}
