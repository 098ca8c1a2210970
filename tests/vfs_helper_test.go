package tests

import (
	"slices"
	"strconv"
	"strings"
	"testing"

	"loop.example/s01733/impl"
)

const maxInt = int(^uint(0) >> 1)

// step is one of the five, with its arguments filled in.
type step struct {
	what string
	take func(impl.FS) (impl.FS, int)
}

func create(name string) step {
	return step{"create " + brief(name), func(fs impl.FS) (impl.FS, int) { return impl.FsCreate(fs, name) }}
}

func appendTo(name string, data string) step {
	return step{"append " + brief(name) + " " + brief(data), func(fs impl.FS) (impl.FS, int) { return impl.FsAppend(fs, name, data) }}
}

func syncFile(name string) step {
	return step{"sync " + brief(name), func(fs impl.FS) (impl.FS, int) { return impl.FsSync(fs, name) }}
}

func rename(from string, to string) step {
	return step{"rename " + brief(from) + " " + brief(to), func(fs impl.FS) (impl.FS, int) { return impl.FsRename(fs, from, to) }}
}

func remove(name string) step {
	return step{"remove " + brief(name), func(fs impl.FS) (impl.FS, int) { return impl.FsRemove(fs, name) }}
}

func crash(keep ...int) step {
	return step{"crash", func(fs impl.FS) (impl.FS, int) { return impl.FsCrash(fs, keep), impl.FsOk }}
}

// brief keeps texts of a megabyte out of the messages.
func brief(s string) string {
	if len(s) > 20 {
		return strconv.Quote(s[:20]) + ".. of " + strconv.Itoa(len(s))
	}
	return strconv.Quote(s)
}

func show(fs impl.FS) string {
	var b strings.Builder
	b.WriteString("quota " + strconv.Itoa(fs.Quota) + " fuel " + strconv.Itoa(fs.Fuel) + " files " + strconv.Itoa(len(fs.Files)))
	for i, f := range fs.Files {
		if i == 8 {
			b.WriteString(" ..")
			break
		}
		b.WriteString(" [" + brief(f.Name) + " " + brief(f.Data) + " " + strconv.Itoa(f.Synced) + "]")
	}
	return b.String()
}

func dir(quota int, fuel int, files ...impl.File) impl.FS {
	return impl.FS{Files: files, Quota: quota, Fuel: fuel}
}

func file(name string, data string, synced int) impl.File {
	return impl.File{Name: name, Data: data, Synced: synced}
}

func many(n int) []impl.File {
	files := []impl.File{}
	for i := range n {
		files = append(files, file("f"+strconv.Itoa(1000+i), "", 0))
	}
	return files
}

func sameFS(a impl.FS, b impl.FS) bool {
	return a.Quota == b.Quota && a.Fuel == b.Fuel && slices.Equal(a.Files, b.Files)
}

func copyFS(fs impl.FS) impl.FS {
	fs.Files = slices.Clone(fs.Files)
	return fs
}

func withFuel(fs impl.FS, fuel int) impl.FS {
	fs = copyFS(fs)
	fs.Fuel = fuel
	return fs
}

// expect takes the step and looks at its answer, and at whether the argument
// is as it was and has no memory in common with the answer.
func expect(t *testing.T, fs impl.FS, s step, want impl.FS, wantCode int) {
	t.Helper()
	before := copyFS(fs)
	got, code := s.take(fs)
	if code != wantCode || !sameFS(got, want) {
		t.Errorf("%s of %s\n gave code %d %s\n want code %d %s", s.what, show(before), code, show(got), wantCode, show(want))
	}
	if !sameFS(fs, before) {
		t.Errorf("%s changed its argument %s to %s", s.what, show(before), show(fs))
	}
	expectApart(t, s.what, fs, got)
}

func expectApart(t *testing.T, what string, fs impl.FS, got impl.FS) {
	t.Helper()
	mark := impl.File{Name: "written by the test"}
	whole := got.Files[:cap(got.Files)]
	for i := range whole {
		whole[i] = mark
	}
	for _, f := range fs.Files[:cap(fs.Files)] {
		if f == mark {
			t.Errorf("%s: the answer shares memory with its argument", what)
			return
		}
	}
}

func expectValid(t *testing.T, what string, fs impl.FS, want bool) {
	t.Helper()
	before := copyFS(fs)
	if impl.ValidFS(fs) != want {
		t.Errorf("%s: ValidFS is %v", what, !want)
	}
	if !sameFS(fs, before) {
		t.Errorf("%s: ValidFS changed its argument", what)
	}
}

func expectFound(t *testing.T, fs impl.FS, name string, want string, wantFound bool) {
	t.Helper()
	before := copyFS(fs)
	got, found := impl.FsFind(fs, name)
	if got != want || found != wantFound {
		t.Errorf("FsFind %s gave %s %v, want %s %v", brief(name), brief(got), found, brief(want), wantFound)
	}
	if !sameFS(fs, before) {
		t.Errorf("FsFind %s changed its argument", brief(name))
	}
}
