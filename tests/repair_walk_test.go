package tests

import (
	"slices"
	"strconv"
	"strings"
	"testing"

	"loop.example/s01733/impl"
)

// numberedEntries has few keys and few Seqs, so that entries of several files meet.
func (d *dice) numberedEntries() []impl.Entry {
	es := []impl.Entry{}
	for range d.below(5) {
		e := impl.Entry{Key: d.storeKey(), Seq: 1 + d.below(30), Kind: d.below(2)}
		if e.Kind == impl.KindPut {
			e.Val = d.storeVal()
		}
		es = append(es, e)
	}
	return es
}

func (d *dice) table() string {
	es := d.numberedEntries()
	slices.SortFunc(es, compareEntries)
	return sst(slices.CompactFunc(es, func(a impl.Entry, b impl.Entry) bool { return compareEntries(a, b) == 0 })...)
}

// piece is a part of a file, most often whole.
func (d *dice) piece() string {
	switch d.below(12) {
	case 0:
		return d.text(d.below(150))
	case 1:
		return strings.Repeat("\x00", 64*d.below(3))
	case 2, 3, 4:
		return blockText(d.numberedEntries())
	case 5:
		return d.table()
	case 6:
		return impl.Frame(frameKinds()[d.below(6)], entriesText(d.numberedEntries())+d.text(d.below(2)))
	case 7:
		return d.edited(logText(d.numberedEntries()))
	case 8:
		s := logText(d.numberedEntries())
		return s[:d.below(len(s))]
	}
	return logText(d.numberedEntries())
}

func (d *dice) pieces() string {
	s := ""
	for range d.below(5) {
		s += d.piece()
	}
	return s
}

// wreckName is most often the name of no store.
func (d *dice) wreckName() string {
	list := []string{"1.log", "12.log", "1.sst", "2.log", "3.sst", "CURRENT", "CURRENT.tmp", "MANIFEST-1", "MANIFEST-3", "a", "a.1", "a.1.1", "b", "lost", "lost/", "lost/1.log", "lost/1.log.1", "lost/a", "lost/a.1", "lost/b.1", "lost/CURRENT", "repair", "z z", "\xff"}
	return list[d.below(len(list))]
}

// wreck is a directory without a repair under way.
func (d *dice) wreck() impl.FS {
	fs := emptyDir()
	for range d.below(9) {
		fs = withFile(fs, d.wreckName(), d.pieces())
	}
	return fs
}

// store is what a session leaves, closed or after a crash.
func (d *dice) store() impl.FS {
	p := &plainStore{fs: emptyDir()}
	for range 5 + d.below(40) {
		if op := d.op(p); op.Kind != impl.OpPoke && op.Kind != impl.OpRepair {
			p.answer(op)
		}
	}
	if p.mode == impl.ModeClosed {
		return withFuel(p.fs, -1)
	}
	return impl.FsCrash(p.fs, d.keeps(p.fs))
}

// hurt does one thing to one file: bytes go bad, are lost or come up behind, the
// file is gone, or is there under another name, too or alone.
func (d *dice) hurt(fs impl.FS) impl.FS {
	if len(fs.Files) == 0 {
		return fs
	}
	f := fs.Files[d.below(len(fs.Files))]
	switch d.below(7) {
	case 0, 1:
		if f.Data != "" {
			return withFile(fs, f.Name, d.edited(f.Data))
		}
	case 2:
		return withFile(fs, f.Name, f.Data[:d.below(len(f.Data)+1)])
	case 3:
		return withFile(fs, f.Name, f.Data+d.piece())
	case 4:
		return withoutFile(fs, f.Name)
	case 5:
		return withFile(fs, d.wreckName(), f.Data)
	case 6:
		return withFile(withoutFile(fs, f.Name), d.wreckName(), f.Data)
	}
	return fs
}

// anyDirectory is a wreck, or a store that is whole or hurt.
func (d *dice) anyDirectory() impl.FS {
	if d.below(2) == 0 {
		return d.wreck()
	}
	fs := d.store()
	for range d.below(4) {
		fs = d.hurt(fs)
	}
	return fs
}

// underRepair puts files of the repairer into the directory, most of them as it
// writes them.
func (d *dice) underRepair(fs impl.FS) impl.FS {
	for _, name := range []string{"repair.ok", "repair.go"} {
		if d.below(2) == 0 {
			fs = withFile(fs, name, markOf(d.below(200)))
		}
	}
	if d.below(4) > 0 {
		fs = withFile(fs, "repair.tab", d.table())
	}
	for _, name := range []string{"repair.", "repair.tmp", "repair.x", "1.sst", "2.log", "CURRENT", "CURRENT.tmp", "MANIFEST-3"} {
		if d.below(6) == 0 {
			fs = withFile(fs, name, d.pieces())
		}
	}
	if d.below(3) == 0 {
		fs = d.hurt(fs)
	}
	return fs
}

// unsynced takes part of what is synced back.
func (d *dice) unsynced(fs impl.FS) impl.FS {
	fs = copyFS(fs)
	for i := range fs.Files {
		if d.below(3) == 0 {
			fs.Files[i].Synced = d.below(len(fs.Files[i].Data) + 1)
		}
	}
	return fs
}

// Any directory whatever, held against chapter 6 told once more.
func TestAnyDirectoryAgainstTheDocument(t *testing.T) {
	d := &dice{state: 61733}
	codes, checks, stages := map[int]int{}, map[int]int{}, map[int]int{}
	for walk := range 6000 {
		fs := d.anyDirectory()
		if d.below(2) == 0 {
			fs = d.underRepair(fs)
		}
		fs = d.unsynced(fs)
		if d.below(3) == 0 {
			fs.Quota = totalOf(fs) + d.below(1500)
		}
		if d.below(3) == 0 {
			fs.Fuel = d.below(40)
		}
		if d.below(20) == 0 {
			fs = withFile(fs, strings.Repeat("n", 99+d.below(3)), "x")
		}
		what := "walk " + strconv.Itoa(walk)
		want := plainView(fs)
		expectView(t, what, fs, want.Last, want.Entries...)
		expectCheck(t, what, fs, plainCheck(fs))
		checks[plainCheck(fs)]++
		stages[firstStageOf(fs)]++
		got, code := expectMended(t, what, fs)
		codes[code]++
		expectCheck(t, what+", mended", got, plainCheck(got))
		if t.Failed() {
			t.Fatalf("%s: %s", what, show(fs))
		}
	}
	for _, code := range []int{impl.RunOk, impl.RunBad, impl.RunFull, impl.RunDead} {
		if codes[code] < 50 {
			t.Errorf("code %d came up only %d times: the walks miss their purpose", code, codes[code])
		}
	}
	for check := impl.CheckOk; check <= impl.CheckRepair; check++ {
		if checks[check] < 20 {
			t.Errorf("check %d came up only %d times: the walks miss their purpose", check, checks[check])
		}
	}
	for stage := 1; stage <= 3; stage++ {
		if stages[stage] < 300 {
			t.Errorf("stage %d began only %d repairs: the walks miss their purpose", stage, stages[stage])
		}
	}
}
