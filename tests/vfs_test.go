package tests

import (
	"strings"
	"testing"

	"loop.example/s01733/impl"
)

func small() impl.FS {
	return dir(20, -1, file("a", "hello", 2), file("b", "", 0), file("d", "xyz", 3))
}

// notValid has one directory for each reason that chapter 1 names, and each of
// them is valid but for that reason.
func notValid() map[string]impl.FS {
	half := strings.Repeat("h", impl.MaxTotal/2)
	return map[string]impl.FS{
		"too many files":            dir(0, -1, many(impl.MaxFiles+1)...),
		"a name of no bytes":        dir(0, -1, file("", "", 0)),
		"a name that is too long":   dir(0, -1, file(strings.Repeat("n", impl.MaxFileName+1), "", 0)),
		"a long name further on":    dir(0, -1, file("a", "", 0), file(strings.Repeat("n", impl.MaxFileName+1), "", 0)),
		"two names the same":        dir(0, -1, file("a", "", 0), file("a", "", 0)),
		"names out of order":        dir(0, -1, file("b", "", 0), file("a", "", 0)),
		"the longer name first":     dir(0, -1, file("ab", "", 0), file("a", "", 0)),
		"bytes out of order":        dir(0, -1, file("\xc3\xa9", "", 0), file("z", "", 0)),
		"the last two out of order": dir(0, -1, file("a", "", 0), file("c", "", 0), file("b", "", 0)),
		"less than nothing synced":  dir(0, -1, file("a", "12", -1)),
		"more synced than data":     dir(0, -1, file("a", "12", 3)),
		"more synced further on":    dir(0, -1, file("a", "12", 2), file("b", "", 1)),
		"too much in one file":      dir(0, -1, file("a", strings.Repeat("x", impl.MaxTotal+1), 0)),
		"too much in all":           dir(0, -1, file("a", half, 0), file("b", half, 0), file("c", "1", 0)),
		"a quota below nothing":     dir(-1, -1, file("a", "", 0)),
		"a quota that is too great": dir(impl.MaxTotal+1, -1, file("a", "", 0)),
		"fuel below -1":             dir(0, -2, file("a", "", 0)),
		"the least fuel":            dir(0, -maxInt-1, file("a", "", 0)),
	}
}

func TestValidFS(t *testing.T) {
	half := strings.Repeat("h", impl.MaxTotal/2)
	good := map[string]impl.FS{
		"the zero FS":            {},
		"an empty list":          {Files: []impl.File{}},
		"a small one":            small(),
		"as many files as go":    dir(0, -1, many(impl.MaxFiles)...),
		"the longest name":       dir(0, -1, file(strings.Repeat("n", impl.MaxFileName), "", 0)),
		"any bytes as names":     dir(0, -1, file("\x00", "", 0), file("\n", "", 0), file("/", "", 0), file("\xff", "", 0)),
		"names by their bytes":   dir(0, -1, file("Z", "", 0), file("a", "", 0), file("a\x00", "", 0), file("z", "", 0), file("\xc3\xa9", "", 0)),
		"all that goes":          dir(0, -1, file("a", half, 0), file("b", half, 0)),
		"all in one file":        dir(0, -1, file("a", half+half, impl.MaxTotal)),
		"more than the quota":    dir(1, -1, file("a", "12", 0)),
		"the greatest quota":     dir(impl.MaxTotal, -1),
		"dead":                   dir(0, 0, file("a", "12", 0)),
		"the greatest fuel":      dir(0, maxInt),
		"a part of it is synced": dir(0, -1, file("a", "12", 1)),
	}
	for what, fs := range good {
		expectValid(t, what, fs, true)
	}
	for what, fs := range notValid() {
		expectValid(t, what, fs, false)
	}
}

func TestFsFind(t *testing.T) {
	fs := small()
	expectFound(t, fs, "a", "hello", true)
	expectFound(t, fs, "b", "", true)
	expectFound(t, fs, "d", "xyz", true)
	expectFound(t, withFuel(fs, 0), "a", "hello", true)
	expectFound(t, withFuel(fs, 1), "a", "hello", true)
	for _, name := range []string{"", "c", "aa", "A", "\x00", strings.Repeat("a", impl.MaxFileName+1)} {
		expectFound(t, fs, name, "", false)
	}
	expectFound(t, impl.FS{}, "a", "", false)
	for what, fs := range notValid() {
		if data, found := impl.FsFind(fs, "a"); found || data != "" {
			t.Errorf("%s: FsFind gave %s %v", what, brief(data), found)
		}
	}
}

func TestCreate(t *testing.T) {
	fs := small()
	expect(t, fs, create("c"), dir(20, -1, file("a", "hello", 2), file("b", "", 0), file("c", "", 0), file("d", "xyz", 3)), impl.FsOk)
	expect(t, fs, create("A"), dir(20, -1, file("A", "", 0), file("a", "hello", 2), file("b", "", 0), file("d", "xyz", 3)), impl.FsOk)
	expect(t, fs, create("\xff"), dir(20, -1, file("a", "hello", 2), file("b", "", 0), file("d", "xyz", 3), file("\xff", "", 0)), impl.FsOk)
	expect(t, fs, create("a"), dir(20, -1, file("a", "", 0), file("b", "", 0), file("d", "xyz", 3)), impl.FsOk)
	expect(t, fs, create("b"), fs, impl.FsOk)
	expect(t, impl.FS{Fuel: -1}, create("a"), dir(0, -1, file("a", "", 0)), impl.FsOk)
}

func TestNamesOfASize(t *testing.T) {
	longest := strings.Repeat("n", impl.MaxFileName)
	fs := small()
	with := dir(20, -1, file("a", "hello", 2), file("b", "", 0), file("d", "xyz", 3), file(longest, "", 0))
	expect(t, fs, create(longest), with, impl.FsOk)
	expect(t, with, appendTo(longest, "1"), dir(20, -1, file("a", "hello", 2), file("b", "", 0), file("d", "xyz", 3), file(longest, "1", 0)), impl.FsOk)
	expect(t, with, syncFile(longest), with, impl.FsOk)
	expect(t, with, remove(longest), fs, impl.FsOk)
	expect(t, fs, rename("d", longest), dir(20, -1, file("a", "hello", 2), file("b", "", 0), file(longest, "xyz", 3)), impl.FsOk)
	expect(t, with, rename(longest, "e"), dir(20, -1, file("a", "hello", 2), file("b", "", 0), file("d", "xyz", 3), file("e", "", 0)), impl.FsOk)
	for _, bad := range []string{"", longest + "n", strings.Repeat("n", 1000)} {
		for _, s := range []step{create(bad), appendTo(bad, "1"), appendTo(bad, ""), syncFile(bad), remove(bad), rename(bad, "a"), rename("a", bad), rename("c", bad), rename(bad, bad)} {
			expect(t, fs, s, fs, impl.FsBadName)
		}
	}
}

func TestNumberOfFiles(t *testing.T) {
	for _, n := range []int{impl.MaxFiles - 1, impl.MaxFiles} {
		fs := dir(10, 5, many(n)...)
		fs.Files[0].Data = "12"
		fs.Files[0].Synced = 1
		first := fs.Files[0].Name
		emptied := withFuel(fs, 4)
		emptied.Files[0] = file(first, "", 0)
		expect(t, fs, create(first), emptied, impl.FsOk)
		moved := withFuel(fs, 4)
		moved.Files[0].Name = "a"
		expect(t, fs, rename(first, "a"), moved, impl.FsOk)
		if n < impl.MaxFiles {
			grown := withFuel(fs, 4)
			grown.Files = append(grown.Files, file("g", "", 0))
			expect(t, fs, create("g"), grown, impl.FsOk)
		} else {
			expect(t, fs, create("g"), withFuel(fs, 4), impl.FsLimit)
			expect(t, fs, create(""), withFuel(fs, 4), impl.FsBadName)
		}
	}
	over := dir(10, 5, many(impl.MaxFiles+1)...)
	expect(t, over, create("g"), impl.FS{}, impl.FsInvalid)
	expect(t, over, remove("f1000"), impl.FS{}, impl.FsInvalid)
}

func TestAppend(t *testing.T) {
	fs := small()
	expect(t, fs, appendTo("a", " you"), dir(20, -1, file("a", "hello you", 2), file("b", "", 0), file("d", "xyz", 3)), impl.FsOk)
	expect(t, fs, appendTo("d", "\x00\xff"), dir(20, -1, file("a", "hello", 2), file("b", "", 0), file("d", "xyz\x00\xff", 3)), impl.FsOk)
	expect(t, fs, appendTo("a", ""), fs, impl.FsOk)
	expect(t, fs, appendTo("b", strings.Repeat("q", 12)), dir(20, -1, file("a", "hello", 2), file("b", strings.Repeat("q", 12), 0), file("d", "xyz", 3)), impl.FsOk)
	expect(t, fs, appendTo("b", strings.Repeat("q", 13)), fs, impl.FsQuota)
	for _, name := range []string{"c", "A", "aa"} {
		expect(t, fs, appendTo(name, "1"), fs, impl.FsNone)
		expect(t, fs, appendTo(name, ""), fs, impl.FsNone)
	}
}

func TestAppendAboveQuota(t *testing.T) {
	for quota := range 8 {
		fs := small()
		fs.Quota = quota
		expect(t, fs, appendTo("b", ""), fs, impl.FsOk)
		expect(t, fs, appendTo("b", "1"), fs, impl.FsQuota)
		expect(t, fs, create("c"), dir(quota, -1, file("a", "hello", 2), file("b", "", 0), file("c", "", 0), file("d", "xyz", 3)), impl.FsOk)
	}
	exact := small()
	exact.Quota = 8
	expect(t, exact, appendTo("b", ""), exact, impl.FsOk)
	expect(t, exact, appendTo("b", "1"), exact, impl.FsQuota)
}

func TestAppendUpToTotal(t *testing.T) {
	half := strings.Repeat("h", impl.MaxTotal/2)
	fs := dir(impl.MaxTotal, -1, file("a", half, 0), file("b", half[1:], 0))
	full := dir(impl.MaxTotal, -1, file("a", half, 0), file("b", half[1:]+"1", 0))
	expect(t, fs, appendTo("b", "1"), full, impl.FsOk)
	expect(t, fs, appendTo("b", "12"), fs, impl.FsLimit)
	expect(t, full, appendTo("b", ""), full, impl.FsOk)
	expect(t, full, appendTo("b", "1"), full, impl.FsLimit)
	expect(t, fs, appendTo("c", half), fs, impl.FsNone)
	full.Quota = 0
	expect(t, full, appendTo("a", ""), full, impl.FsOk)
	expect(t, full, appendTo("a", "1"), full, impl.FsLimit)
	fs.Quota = 0
	expect(t, fs, appendTo("a", "1"), fs, impl.FsQuota)
	expect(t, fs, appendTo("a", "12"), fs, impl.FsLimit)
}

func TestSync(t *testing.T) {
	fs := small()
	expect(t, fs, syncFile("a"), dir(20, -1, file("a", "hello", 5), file("b", "", 0), file("d", "xyz", 3)), impl.FsOk)
	expect(t, fs, syncFile("b"), fs, impl.FsOk)
	expect(t, fs, syncFile("d"), fs, impl.FsOk)
	expect(t, fs, syncFile("c"), fs, impl.FsNone)
	above := dir(1, -1, file("a", "hello", 2))
	expect(t, above, syncFile("a"), dir(1, -1, file("a", "hello", 5)), impl.FsOk)
}

func TestRename(t *testing.T) {
	fs := small()
	expect(t, fs, rename("a", "c"), dir(20, -1, file("b", "", 0), file("c", "hello", 2), file("d", "xyz", 3)), impl.FsOk)
	expect(t, fs, rename("d", "A"), dir(20, -1, file("A", "xyz", 3), file("a", "hello", 2), file("b", "", 0)), impl.FsOk)
	expect(t, fs, rename("a", "d"), dir(20, -1, file("b", "", 0), file("d", "hello", 2)), impl.FsOk)
	expect(t, fs, rename("b", "a"), dir(20, -1, file("a", "", 0), file("d", "xyz", 3)), impl.FsOk)
	for _, name := range []string{"a", "b", "d"} {
		expect(t, fs, rename(name, name), fs, impl.FsOk)
	}
	expect(t, fs, rename("c", "c"), fs, impl.FsNone)
	expect(t, fs, rename("c", "a"), fs, impl.FsNone)
	expect(t, fs, rename("c", "e"), fs, impl.FsNone)
	above := dir(1, -1, file("a", "hello", 2), file("b", "xyz", 1))
	expect(t, above, rename("a", "b"), dir(1, -1, file("b", "hello", 2)), impl.FsOk)
}

func TestRenameFreesBytes(t *testing.T) {
	fs, _ := impl.FsRename(dir(8, -1, file("a", "hello", 2), file("d", "xyz", 3)), "a", "d")
	expect(t, fs, appendTo("d", "123"), dir(8, -1, file("d", "hello123", 2)), impl.FsOk)
	expect(t, fs, appendTo("d", "1234"), fs, impl.FsQuota)
}

func TestRemove(t *testing.T) {
	fs := small()
	expect(t, fs, remove("a"), dir(20, -1, file("b", "", 0), file("d", "xyz", 3)), impl.FsOk)
	expect(t, fs, remove("d"), dir(20, -1, file("a", "hello", 2), file("b", "", 0)), impl.FsOk)
	expect(t, fs, remove("c"), fs, impl.FsNone)
	expect(t, dir(3, -1, file("a", "x", 1)), remove("a"), dir(3, -1), impl.FsOk)
	expect(t, dir(3, -1), remove("a"), dir(3, -1), impl.FsNone)
}

// Each step is listed with a directory in which it has the code.
func TestFuel(t *testing.T) {
	fs := small()
	full := dir(20, -1, many(impl.MaxFiles)...)
	cases := []struct {
		fs   impl.FS
		step step
		code int
	}{
		{fs, create("c"), impl.FsOk},
		{fs, create("a"), impl.FsOk},
		{fs, create(""), impl.FsBadName},
		{full, create("c"), impl.FsLimit},
		{fs, appendTo("a", "1"), impl.FsOk},
		{fs, appendTo("a", ""), impl.FsOk},
		{fs, appendTo("", "1"), impl.FsBadName},
		{fs, appendTo("c", "1"), impl.FsNone},
		{fs, appendTo("a", strings.Repeat("x", 13)), impl.FsQuota},
		{fs, appendTo("a", strings.Repeat("x", impl.MaxTotal)), impl.FsLimit},
		{fs, syncFile("a"), impl.FsOk},
		{fs, syncFile("d"), impl.FsOk},
		{fs, syncFile(""), impl.FsBadName},
		{fs, syncFile("c"), impl.FsNone},
		{fs, rename("a", "b"), impl.FsOk},
		{fs, rename("a", "a"), impl.FsOk},
		{fs, rename("a", ""), impl.FsBadName},
		{fs, rename("c", "a"), impl.FsNone},
		{fs, remove("a"), impl.FsOk},
		{fs, remove(""), impl.FsBadName},
		{fs, remove("c"), impl.FsNone},
	}
	for _, c := range cases {
		want, code := c.step.take(c.fs)
		if code != c.code || want.Fuel != -1 {
			t.Errorf("%s: code %d fuel %d, want code %d fuel -1", c.step.what, code, want.Fuel, c.code)
		}
		for _, fuel := range []int{1, 2, 3, 1000, maxInt} {
			expect(t, withFuel(c.fs, fuel), c.step, withFuel(want, fuel-1), c.code)
		}
		expect(t, withFuel(c.fs, 0), c.step, withFuel(c.fs, 0), impl.FsDead)
	}
}

func TestStepsOfWhatIsNotValid(t *testing.T) {
	for _, fs := range notValid() {
		for _, name := range []string{"a", "c", ""} {
			for _, s := range []step{create(name), appendTo(name, "1"), syncFile(name), rename(name, "a"), rename("a", name), remove(name)} {
				expect(t, fs, s, impl.FS{}, impl.FsInvalid)
			}
		}
		expect(t, fs, crash(), impl.FS{}, impl.FsOk)
		expect(t, fs, crash(1, 1, 1), impl.FS{}, impl.FsOk)
	}
	dead := dir(-1, 0, file("a", "", 0))
	expect(t, dead, create("a"), impl.FS{}, impl.FsInvalid)
}

func TestCrash(t *testing.T) {
	fs := dir(4, 7, file("a", "hello", 2), file("b", "abc", 0), file("c", "xyz", 3), file("d", "", 0))
	left := func(a string, b string) impl.FS {
		return dir(4, -1, file("a", a, len(a)), file("b", b, len(b)), file("c", "xyz", 3), file("d", "", 0))
	}
	expect(t, fs, crash(), left("he", ""), impl.FsOk)
	expect(t, fs, crash(0, 0, 0, 0), left("he", ""), impl.FsOk)
	expect(t, fs, crash(1), left("hel", ""), impl.FsOk)
	expect(t, fs, crash(3, 3, 0, 0), left("hello", "abc"), impl.FsOk)
	expect(t, fs, crash(2, 2, 5, 5), left("hell", "ab"), impl.FsOk)
	expect(t, fs, crash(4, 4), left("hello", "abc"), impl.FsOk)
	expect(t, fs, crash(-1, 1, -1, -1), left("he", "a"), impl.FsOk)
	expect(t, fs, crash(-maxInt-1, maxInt, maxInt, maxInt), left("he", "abc"), impl.FsOk)
	expect(t, fs, crash(maxInt, -maxInt-1), left("hello", ""), impl.FsOk)
	expect(t, fs, crash(1, 1, 1, 1, 1, -9, maxInt), left("hel", "a"), impl.FsOk)
	for _, fuel := range []int{-1, 0, 1, maxInt} {
		expect(t, withFuel(fs, fuel), crash(1, 2), left("hel", "ab"), impl.FsOk)
	}
	expect(t, impl.FS{}, crash(1), dir(0, -1), impl.FsOk)
}

func TestCrashLeavesKeepAlone(t *testing.T) {
	keep := []int{9, -9, 1, 7}
	impl.FsCrash(small(), keep)
	for i, want := range []int{9, -9, 1, 7} {
		if keep[i] != want {
			t.Errorf("keep[%d] is %d, was %d", i, keep[i], want)
		}
	}
}

// A slice with room behind its end must not be written into either.
func TestRoomBehindTheList(t *testing.T) {
	files := make([]impl.File, 0, 10)
	files = append(files, small().Files...)
	for _, s := range []step{create("e"), create("aa"), appendTo("a", "1"), syncFile("a"), rename("a", "e"), rename("d", "0"), remove("a"), crash(1)} {
		s.take(impl.FS{Files: files, Quota: 20, Fuel: -1})
		for i, f := range files[:cap(files)][len(files):] {
			if f != (impl.File{}) {
				t.Errorf("%s wrote into place %d behind its argument", s.what, i)
			}
		}
	}
}
