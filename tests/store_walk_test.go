package tests

import (
	"slices"
	"strconv"
	"strings"
	"testing"

	"loop.example/s01733/impl"
)

func (d *dice) storeKey() string {
	if d.below(40) == 0 {
		return strings.Repeat("k", []int{999, 1000}[d.below(2)])
	}
	return string(rune('a' + d.below(7)))
}

func (d *dice) storeVal() string {
	if d.below(60) == 0 {
		return strings.Repeat("v", []int{3999, 4000}[d.below(2)])
	}
	return strconv.Itoa(d.below(1000)) + strings.Repeat("v", d.below(3)*d.below(50))
}

// bound is a key, nothing, or what lies between two keys.
func (d *dice) bound() string {
	return []string{"", d.storeKey(), d.storeKey() + "m", "\xff"}[d.below(4)]
}

func (d *dice) batch() impl.Op {
	op := impl.Op{Kind: impl.OpBatch}
	for range 1 + d.below(12) {
		e := impl.Entry{Key: d.storeKey(), Kind: d.below(2)}
		if e.Kind == impl.KindPut {
			e.Val = d.storeVal()
		}
		op.Batch = append(op.Batch, e)
	}
	return op
}

func (d *dice) keeps(fs impl.FS) []int {
	keep := []int{}
	for range fs.Files {
		keep = append(keep, []int{-1, 0, d.below(70), d.below(400), maxInt}[d.below(5)])
	}
	if d.below(3) == 0 {
		keep = keep[:d.below(len(keep)+1)]
	}
	return keep
}

// pokeAt is one on a file that is there; half of them change nothing.
func (d *dice) pokeAt(fs impl.FS) impl.Op {
	if len(fs.Files) == 0 {
		return opPoke("x", d.below(3)-1, "")
	}
	f := fs.Files[d.below(len(fs.Files))]
	at := d.below(len(f.Data)+3) - 1
	if at < 0 || at >= len(f.Data) || d.below(8) == 0 {
		return opPoke(f.Name, at, d.text(d.below(4)))
	}
	if d.below(2) == 0 {
		return opPoke(f.Name, at, f.Data[at:at+1])
	}
	return opPoke(f.Name, at, d.text(1))
}

// wrongOp is most often not as described.
func (d *dice) wrongOp() impl.Op {
	op := impl.Op{Kind: d.below(20) - 1}
	switch d.below(5) {
	case 0:
		op.Key = strings.Repeat("k", 1001)
	case 1:
		op.Key, op.Val = "k", strings.Repeat("v", 4001)
	case 2:
		op.N = d.below(9) - 4
	case 3:
		op.Batch = []impl.Entry{{Key: "k", Seq: d.below(2), Kind: d.below(3), Val: d.text(d.below(2))}}
	case 4:
		return opCrash(make([]int, 200+d.below(2))...)
	}
	return op
}

// writing is an operation of an open process that changes what it holds.
func (d *dice) writing() impl.Op {
	switch d.below(10) {
	case 0, 1, 2:
		return opPut(d.storeKey(), d.storeVal())
	case 3, 4:
		return opDel(d.storeKey())
	case 5:
		return d.batch()
	case 6, 7:
		return opFlush
	}
	return opCompact(min(d.below(3), d.below(3)))
}

func (d *dice) otherOp(fs impl.FS) impl.Op {
	switch d.below(24) {
	case 0, 1:
		return opSync
	case 2, 3:
		return opClose
	case 4, 5:
		return opCrash(d.keeps(fs)...)
	case 6, 7:
		return opFuel(d.below(25) - 2)
	case 8:
		return d.pokeAt(fs)
	case 9:
		return opDump
	case 10:
		return opCheck
	case 11, 12:
		return d.wrongOp()
	case 13:
		return ops(opRepair, opList)[d.below(2)]
	case 14, 15, 16, 17:
		return opGet(d.storeKey())
	case 18:
		return opFuel(-1)
	case 19:
		return opOpen
	}
	return opScan(d.bound(), d.bound())
}

// op goes by the mode, so that a walk does not stay where nothing can be done.
func (d *dice) op(p *plainStore) impl.Op {
	switch {
	case p.mode == impl.ModeClosed && d.below(2) == 0:
		return opOpen
	case p.mode == impl.ModeDead && d.below(2) == 0:
		return opCrash(d.keeps(p.fs)...)
	case p.mode == impl.ModeOpen && d.below(2) == 0:
		return d.writing()
	}
	return d.otherOp(p.fs)
}

// ground is a directory to begin with: most often the empty one.
func (d *dice) ground() impl.FS {
	fs := emptyDir()
	if d.below(2) == 0 {
		fs.Quota = 200 + d.below(3000)
	}
	if d.below(4) == 0 {
		fs.Fuel = d.below(60)
	}
	if d.below(3) == 0 {
		for _, name := range []string{"1.log", "12.log", "3.log.old", "CURRENT.tmp", "MANIFEST-0", "MANIFEST-7", "lost/1.sst", "notes"} {
			if d.below(2) == 0 {
				fs.Files = append(fs.Files, file(name, "", 0))
			}
		}
	}
	if d.below(6) == 0 {
		fs = crowded(fs, 194+d.below(6))
	}
	return fs
}

func TestSessionsAgainstTheDocument(t *testing.T) {
	d := &dice{state: 1733}
	seen := map[string]int{}
	for walk := range 1500 {
		fs := d.ground()
		p := &plainStore{fs: fs}
		list := []impl.Op{}
		want := impl.Outcome{}
		for range 10 + d.below(60) {
			op := d.op(p)
			list = append(list, op)
			want.Answers = append(want.Answers, p.answer(op))
			seen[strconv.Itoa(op.Kind)+" "+strconv.Itoa(want.Answers[len(want.Answers)-1].Code)]++
		}
		want.Fs, want.Mode = p.fs, p.mode
		if got := exec(t, fs, list...); !sameOutcome(got, want) {
			i := 0
			for i < len(list) && sameAnswer(got.Answers[i], want.Answers[i]) {
				i++
			}
			t.Fatalf("walk %d: the first answer that differs is %d of %d\n got %s\nwant %s", walk, i, len(list), show(got.Fs), show(want.Fs))
		}
		got, code := impl.Peek(p.fs)
		if pairs, wantCode := plainPeek(p.fs); code != wantCode || !slices.Equal(got, pairs) {
			t.Fatalf("walk %d: Peek gave %d and %d pairs, want %d and %d", walk, code, len(got), wantCode, len(pairs))
		}
	}
	expectSeen(t, seen)
}

// expectSeen looks at whether the walks came by each code of each operation.
func expectSeen(t *testing.T, seen map[string]int) {
	t.Helper()
	kinds := map[int][]int{
		impl.OpOpen:    {impl.RunOk, impl.RunState, impl.RunBad, impl.RunFull, impl.RunDamaged, impl.RunDead},
		impl.OpPut:     {impl.RunOk, impl.RunBad, impl.RunFull, impl.RunDead},
		impl.OpDel:     {impl.RunOk, impl.RunBad, impl.RunFull, impl.RunDead},
		impl.OpBatch:   {impl.RunOk, impl.RunBad, impl.RunFull, impl.RunDead},
		impl.OpSync:    {impl.RunOk, impl.RunState, impl.RunBad, impl.RunDead},
		impl.OpGet:     {impl.RunOk, impl.RunState, impl.RunBad, impl.RunNone, impl.RunDamaged, impl.RunDead},
		impl.OpScan:    {impl.RunOk, impl.RunState, impl.RunBad, impl.RunDamaged, impl.RunDead},
		impl.OpFlush:   {impl.RunOk, impl.RunBad, impl.RunFull, impl.RunDead},
		impl.OpCompact: {impl.RunOk, impl.RunBad, impl.RunFull, impl.RunDamaged, impl.RunDead},
		impl.OpClose:   {impl.RunOk, impl.RunState, impl.RunBad, impl.RunDead},
		impl.OpCrash:   {impl.RunOk, impl.RunBad, impl.RunDead},
		impl.OpFuel:    {impl.RunOk, impl.RunBad, impl.RunDead},
		impl.OpPoke:    {impl.RunOk, impl.RunBad, impl.RunNone, impl.RunDead},
		impl.OpCheck:   {impl.RunOk, impl.RunState, impl.RunBad, impl.RunDead},
		impl.OpRepair:  {impl.RunOk, impl.RunState, impl.RunBad, impl.RunFull, impl.RunDead},
		impl.OpDump:    {impl.RunOk, impl.RunBad, impl.RunDead},
		impl.OpList:    {impl.RunOk, impl.RunBad, impl.RunDead},
	}
	for kind, codes := range kinds {
		for _, code := range codes {
			if n := seen[strconv.Itoa(kind)+" "+strconv.Itoa(code)]; n < 5 {
				t.Errorf("kind %d came up with code %d only %d times: the walks miss their purpose", kind, code, n)
			}
		}
	}
}
