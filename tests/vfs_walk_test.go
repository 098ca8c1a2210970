package tests

import (
	"sort"
	"strings"
	"testing"

	"loop.example/s01733/impl"
)

// model is the directory of chapter 1 told once more, as plainly as can be:
// the walk below holds the program against it.
type model struct {
	data   map[string]string
	synced map[string]int
	quota  int
	fuel   int
}

func newModel(quota int, fuel int) *model {
	return &model{data: map[string]string{}, synced: map[string]int{}, quota: quota, fuel: fuel}
}

func (m *model) total() int {
	n := 0
	for _, d := range m.data {
		n += len(d)
	}
	return n
}

func (m *model) fs() impl.FS {
	names := []string{}
	for name := range m.data {
		names = append(names, name)
	}
	sort.Strings(names)
	files := []impl.File{}
	for _, name := range names {
		files = append(files, file(name, m.data[name], m.synced[name]))
	}
	return dir(m.quota, m.fuel, files...)
}

const (
	moveCreate = iota
	moveAppend
	moveSync
	moveRename
	moveRemove
	moveCrash
)

type move struct {
	kind int
	name string
	text string // data of an append, the new name of a renaming
	keep []int
}

func (v move) step() step {
	switch v.kind {
	case moveCreate:
		return create(v.name)
	case moveAppend:
		return appendTo(v.name, v.text)
	case moveSync:
		return syncFile(v.name)
	case moveRename:
		return rename(v.name, v.text)
	case moveRemove:
		return remove(v.name)
	}
	return crash(v.keep...)
}

func badName(name string) bool {
	return name == "" || len(name) > 120
}

func (m *model) code(v move) int {
	_, there := m.data[v.name]
	grown := m.total() + len(v.text)
	switch {
	case v.kind == moveCrash:
		return impl.FsOk
	case m.fuel == 0:
		return impl.FsDead
	case badName(v.name) || v.kind == moveRename && badName(v.text):
		return impl.FsBadName
	case !there && v.kind != moveCreate:
		return impl.FsNone
	case v.kind == moveCreate && !there && len(m.data) == 200:
		return impl.FsLimit
	case v.kind == moveAppend && grown > 1048576:
		return impl.FsLimit
	case v.kind == moveAppend && v.text != "" && grown > m.quota:
		return impl.FsQuota
	}
	return impl.FsOk
}

func (m *model) apply(v move) int {
	code := m.code(v)
	if v.kind != moveCrash && m.fuel > 0 {
		m.fuel--
	}
	if code != impl.FsOk {
		return code
	}
	switch v.kind {
	case moveCreate:
		m.data[v.name], m.synced[v.name] = "", 0
	case moveAppend:
		m.data[v.name] += v.text
	case moveSync:
		m.synced[v.name] = len(m.data[v.name])
	case moveRename:
		data, synced := m.data[v.name], m.synced[v.name]
		delete(m.data, v.name)
		delete(m.synced, v.name)
		m.data[v.text], m.synced[v.text] = data, synced
	case moveRemove:
		delete(m.data, v.name)
		delete(m.synced, v.name)
	case moveCrash:
		m.crash(v.keep)
	}
	return code
}

func (m *model) crash(keep []int) {
	for i, f := range m.fs().Files {
		size := f.Synced
		for i < len(keep) && size < len(f.Data) && size-f.Synced < keep[i] {
			size++
		}
		m.data[f.Name], m.synced[f.Name] = f.Data[:size], size
	}
	m.fuel = -1
}

// dice is a row of numbers that is the same in every run.
type dice struct{ state uint64 }

func (d *dice) below(n int) int {
	d.state = d.state*6364136223846793005 + 1442695040888963407
	return int(d.state>>33) % n
}

func (d *dice) name() string {
	names := []string{"a", "b", "ab", "\xff", "lost/a", strings.Repeat("n", 120), "", strings.Repeat("n", 121)}
	// Good names more often than bad ones.
	return names[min(d.below(len(names)), d.below(len(names)))]
}

func (d *dice) move() move {
	v := move{kind: d.below(moveCrash), name: d.name()}
	// A crash ends all shortness of fuel, so it comes seldom.
	if d.below(25) == 0 {
		v.kind = moveCrash
	}
	switch v.kind {
	case moveAppend:
		v.text = strings.Repeat(string(rune('a'+d.below(26))), d.below(9))
	case moveRename:
		v.text = d.name()
	case moveCrash:
		for range d.below(8) {
			v.keep = append(v.keep, d.below(10)-2)
		}
	}
	return v
}

func TestWalksAgainstAModel(t *testing.T) {
	d := &dice{state: 1733}
	seen := map[int]int{}
	for range 400 {
		m := newModel(d.below(25), d.below(60)-1)
		fs := m.fs()
		for range 80 {
			v := d.move()
			wantCode := m.apply(v)
			before := copyFS(fs)
			got, code := v.step().take(fs)
			if code != wantCode || !sameFS(got, m.fs()) {
				t.Fatalf("%s %v of %s\n gave code %d %s\n want code %d %s", v.step().what, v.keep, show(before), code, show(got), wantCode, show(m.fs()))
			}
			if !sameFS(fs, before) {
				t.Fatalf("%s changed its argument %s", v.step().what, show(before))
			}
			expectStepIsSmall(t, v, before, got, code)
			seen[code]++
			fs = got
		}
	}
	for _, code := range []int{impl.FsOk, impl.FsNone, impl.FsBadName, impl.FsQuota, impl.FsDead} {
		if seen[code] < 300 {
			t.Errorf("code %d came up only %d times: the walks miss their purpose", code, seen[code])
		}
	}
}

// expectStepIsSmall looks at promise 1 itself, without the model.
func expectStepIsSmall(t *testing.T, v move, before impl.FS, after impl.FS, code int) {
	t.Helper()
	if !impl.ValidFS(after) || after.Quota != before.Quota {
		t.Fatalf("%s gave %s", v.step().what, show(after))
	}
	if v.kind == moveCrash {
		expectBeginnings(t, before, after)
		return
	}
	if before.Fuel <= 0 && after.Fuel != before.Fuel || before.Fuel > 0 && after.Fuel != before.Fuel-1 {
		t.Fatalf("%s: fuel %d became %d", v.step().what, before.Fuel, after.Fuel)
	}
	if code != impl.FsOk && !sameFS(withFuel(after, before.Fuel), before) {
		t.Fatalf("%s with code %d changed %s to %s", v.step().what, code, show(before), show(after))
	}
	for _, f := range before.Files {
		if f.Name == v.name || v.kind == moveRename && f.Name == v.text {
			continue
		}
		if data, found := impl.FsFind(after, f.Name); !found || data != f.Data {
			t.Fatalf("%s touched %s", v.step().what, brief(f.Name))
		}
	}
}

func expectBeginnings(t *testing.T, before impl.FS, after impl.FS) {
	t.Helper()
	if len(after.Files) != len(before.Files) || after.Fuel != -1 {
		t.Fatalf("a crash of %s left %s", show(before), show(after))
	}
	for i, f := range before.Files {
		g := after.Files[i]
		if g.Name != f.Name || !strings.HasPrefix(f.Data, g.Data) || len(g.Data) < f.Synced || g.Synced != len(g.Data) {
			t.Fatalf("a crash made of file %v %v", f, g)
		}
	}
}

// Nothing is kept between two calls: the same call answers the same, also
// beside others that run at the same time.
func TestCallsBesideEachOther(t *testing.T) {
	fs := small()
	steps := []step{create("c"), appendTo("a", "1"), syncFile("a"), rename("a", "d"), remove("a"), crash(1)}
	want := []impl.FS{}
	for _, s := range steps {
		got, _ := s.take(fs)
		want = append(want, got)
	}
	done := make(chan string)
	for i, s := range steps {
		go func() {
			fault := ""
			for range 50 {
				if got, code := s.take(fs); code != impl.FsOk || !sameFS(got, want[i]) {
					fault = s.what + " gave " + show(got)
				}
			}
			done <- fault
		}()
	}
	for range steps {
		if fault := <-done; fault != "" {
			t.Error(fault)
		}
	}
}
