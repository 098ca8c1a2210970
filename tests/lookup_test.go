package tests

import (
	"slices"
	"strconv"
	"testing"

	"loop.example/s01733/impl"
)

func TestGetFollowsAKey(t *testing.T) {
	says := []said{{opOpen, "0"}, {opGet("a"), "5"}}
	value := 0
	add := func(op impl.Op, want string) { says = append(says, said{op, "0"}, said{opGet("a"), want}) }
	// Put, put again, deleted, put again, with the entry before in mem or in a table.
	for _, between := range [][]impl.Op{nil, {opFlush}, {opFlush, opCompact(0)}, {opFlush, opCompact(0), opCompact(1)}, {opSync}, {opClose, opOpen}} {
		for _, deleted := range []bool{false, false, true, true, false} {
			value++
			want := "0 " + strconv.Itoa(value)
			if deleted {
				want = "5"
				add(opDel("a"), want)
			} else {
				add(opPut("a", strconv.Itoa(value)), want)
			}
			for _, op := range between {
				says = append(says, said{op, "0"})
			}
			says = append(says, said{opGet("a"), want}, said{opGet("aa"), "5"}, said{opGet("A"), "5"}, said{opGet("a\x00"), "5"})
		}
	}
	expectSession(t, "one key", emptyDir(), says...)
}

func TestGetOfMemAndTables(t *testing.T) {
	fs := shelf(board{9, 0, entries(del("a", 30), put("b", 31, "b31"))}, board{8, 1, entries(put("a", 20, "a20"), put("c", 21, "c21"))}, board{7, 3, entries(put("b", 1, "b1"), put("d", 2, "d2"))})
	expectSession(t, "tables alone", fs, said{opOpen, "0"}, said{opGet("a"), "5"}, said{opGet("b"), "0 b31"}, said{opGet("c"), "0 c21"}, said{opGet("d"), "0 d2"}, said{opGet("e"), "5"}, said{opAll, "0 b=b31 c=c21 d=d2"})
	expectSession(t, "both", fs, said{opOpen, "0"}, said{opPut("a", "mem"), "0"}, said{opDel("b"), "0"}, said{opDel("d"), "0"}, said{opPut("d", ""), "0"}, said{opDel("e"), "0"},
		said{opGet("a"), "0 mem"}, said{opGet("b"), "5"}, said{opGet("c"), "0 c21"}, said{opGet("d"), "0"}, said{opGet("e"), "5"}, said{opAll, "0 a=mem c=c21 d="})
	o := exec(t, fs, opOpen, opPut("a", ""), opGet("a"))
	if a := o.Answers[2]; a.Code != impl.RunOk || a.Val != "" {
		t.Errorf("an empty value gives %s", tell(a))
	}
	key, val := long(1000), long(4000)
	expectSession(t, "the longest", emptyDir(), said{opOpen, "0"}, said{opPut(key, val), "0"}, said{opPut(long(999), "x"), "0"}, said{opGet(key), "0 " + val}, said{opFlush, "0"}, said{opGet(key), "0 " + val}, said{opGet(long(999)), "0 x"}, said{opGet(long(998)), "5"})
	for _, where := range [][]impl.Op{nil, {opFlush}} {
		list := slices.Concat(ops(opOpen, opPut("a\x00", "1"), opPut("b", "2"), opDel("b"), opPut("b\x00\x00", "3")), where, ops(opGet("a"), opGet("b"), opGet("b\x00"), opGet("a\x00"), opGet("b\x00\x00")))
		answers := exec(t, emptyDir(), list...).Answers
		for i, want := range []string{"5", "5", "5", "0 1", "0 3"} {
			if got := tell(answers[len(answers)-5+i]); got != want {
				t.Errorf("keys that differ by a zero byte: get %d is answered %s, want %s", i, got, want)
			}
		}
	}
	expectSession(t, "any bytes", emptyDir(), said{opOpen, "0"}, said{opPut("\x00", "\xff"), "0"}, said{opPut("\xff", "\x00"), "0"}, said{opGet("\x00"), "0 \xff"}, said{opFlush, "0"}, said{opAll, "0 \x00=\xff \xff=\x00"})
}

func TestScanBounds(t *testing.T) {
	tables := shelf(board{9, 0, entries(put("b", 30, "1"), del("c", 31), put("d", 32, "2"))}, board{8, 2, entries(put("b", 1, "0"), put("c", 2, "0"), put("f", 3, "3"))})
	said1 := []said{{opOpen, "0"}, {opPut("dd", "4"), "0"}, {opDel("f"), "0"}, {opPut("g", "5"), "0"}}
	for _, c := range []struct{ lo, hi, want string }{
		{"", "", "0 b=1 d=2 dd=4 g=5"}, {"a", "", "0 b=1 d=2 dd=4 g=5"}, {"b", "", "0 b=1 d=2 dd=4 g=5"}, {"b\x00", "", "0 d=2 dd=4 g=5"}, {"c", "", "0 d=2 dd=4 g=5"},
		{"d", "", "0 d=2 dd=4 g=5"}, {"d\x00", "", "0 dd=4 g=5"}, {"dd", "", "0 dd=4 g=5"}, {"e", "", "0 g=5"}, {"g", "", "0 g=5"}, {"g\x00", "", "0"}, {"\xff", "", "0"},
		{"", "b", "0"}, {"", "b\x00", "0 b=1"}, {"", "c", "0 b=1"}, {"", "d", "0 b=1"}, {"", "dd", "0 b=1 d=2"}, {"", "de", "0 b=1 d=2 dd=4"}, {"", "g", "0 b=1 d=2 dd=4"}, {"", "h", "0 b=1 d=2 dd=4 g=5"},
		{"b", "d", "0 b=1"}, {"b", "dd", "0 b=1 d=2"}, {"c", "g", "0 d=2 dd=4"}, {"dd", "de", "0 dd=4"}, {"e", "f", "0"}, {"f", "g", "0"},
		{"b", "b", "0"}, {"d", "d", "0"}, {"x", "x", "0"}, {"g", "b", "0"}, {"d", "b", "0"}, {"\xff", "\x00", "0"}, {"d", "\x00", "0"}, {"\x00", "\xff", "0 b=1 d=2 dd=4 g=5"},
		{long(1000), "", "0"}, {"", long(1000), "0 b=1 d=2 dd=4 g=5"},
	} {
		expectSession(t, "from "+brief(c.lo)+" to "+brief(c.hi), tables, append(said1[:4:4], said{opScan(c.lo, c.hi), c.want})...)
	}
	expectSession(t, "nothing", emptyDir(), said{opOpen, "0"}, said{opAll, "0"}, said{opScan("a", "z"), "0"})
}

// another is a table of the size of s with other keys, Seqs or values.
func another(t *testing.T, s string, es ...impl.Entry) string {
	t.Helper()
	if len(sst(es...)) != len(s) {
		t.Fatalf("the test's table has %d bytes, want %d", len(sst(es...)), len(s))
	}
	return sst(es...)
}

func TestDamagedUnderAProcess(t *testing.T) {
	boards := []board{{9, 0, puts("a", 9)}, {8, 1, puts("b", 8)}, {7, 2, puts("c", 7)}, {6, 3, puts("d", 6)}}
	for i, b := range boards {
		name := strconv.Itoa(b.num) + ".sst"
		good := sst(b.es...)
		key := b.es[0].Key
		for what, data := range map[string]string{
			"a bit":                     withByte(good, 100, good[100]^1),
			"the last byte":             withByte(good, len(good)-1, 1),
			"another key":               another(t, good, put(key+"x", 1, "")),
			"a first key more":          another(t, good, put("A", 1, ""), put(key, 1, "")),
			"a last key more":           another(t, good, put(key, 1, ""), put("z", 1, "")),
			"a Seq above Last":          another(t, good, put(key, 41, "")),
			"a table without its index": good[:64] + good[:64] + good[:64],
		} {
			says := []said{{opOpen, "0"}, {opPut("e", "mem"), "0"}, {opPoke(name, 0, data), "0"}}
			// A key that is in mem, or in another table, or in none: the answer is the same.
			for _, key := range []string{"a", "b", "c", "d", "e", "f"} {
				says = append(says, said{opGet(key), "6"})
			}
			says = append(says, said{opAll, "6"}, said{opScan("e", "f"), "6"}, said{opScan("z", "a"), "6"}, said{opSync, "0"}, said{opPut("f", "x"), "0"})
			o := expectSession(t, name+": "+what, shelf(boards...), says...)
			expectPeek(t, name+": "+what, o.Fs, impl.RunDamaged, "")
			for level := range 3 {
				want := "0"
				if level == i || level+1 == i {
					want = "6"
				}
				expectSession(t, name+": "+what+", compact "+strconv.Itoa(level), shelf(boards...), said{opOpen, "0"}, said{opPoke(name, 0, data), "0"}, said{opCompact(level), want})
			}
			expectSession(t, name+": "+what+", mended", shelf(boards...), said{opOpen, "0"}, said{opPoke(name, 0, data), "0"}, said{opAll, "6"}, said{opFlush, "0"}, said{opPoke(name, 0, good), "0"}, said{opAll, "0 a=a9 b=b8 c=c7 d=d6"})
		}
		// A table that still fits is read as it is now.
		expectSession(t, name+": other values", shelf(boards...), said{opOpen, "0"}, said{opGet(key), "0 " + b.es[0].Val}, said{opPoke(name, 0, another(t, good, put(key, 40, "other"))), "0"}, said{opGet(key), "0 other"}, said{opPoke(name, 0, another(t, good, del(key, 40))), "0"}, said{opGet(key), "5"})
	}
}

// A compaction looks at its tables ahead of all else.
func TestCompactOfDamagedTables(t *testing.T) {
	fs := shelf(board{8, 1, puts("b", 8)})
	hurt := opPoke("8.sst", 9, "?")
	for _, fuel := range []int{-1, 0} {
		o := expectSession(t, "the level has no table, the one below a damaged one", fs, said{opOpen, "0"}, said{hurt, "0"}, said{opFuel(fuel), "0"}, said{opCompact(0), "6"}, said{opCompact(1), "6"}, said{opCompact(2), "0"}, said{opFlush, "0"})
		if names(o.Fs) != "60.log 8.sst CURRENT MANIFEST-61" || o.Mode != impl.ModeOpen {
			t.Errorf("left %s, mode %d", names(o.Fs), o.Mode)
		}
	}
	none := impl.Edit{Adds: []impl.TableRef{table(9, 0, "a", "a")}, Log: 50, Next: impl.MaxNum - 4, Last: 40}
	full := storeDir(51, []impl.Edit{none}, "9.sst", sst(puts("a", 9)...))
	expectSession(t, "and no number left", full, said{opOpen, "0"}, said{opPoke("9.sst", 9, "?"), "0"}, said{opCompact(0), "6"})
}

// What a process holds in mem does not hang on the bytes of its log.
func TestPokesBesideTables(t *testing.T) {
	expectSession(t, "a log", emptyDir(), said{opOpen, "0"}, said{opPut("a", "1"), "0"}, said{opPoke("1.log", 0, "x"), "0"}, said{opAll, "0 a=1"}, said{opFlush, "0"}, said{opAll, "0 a=1"}, said{opClose, "0"}, said{opOpen, "0"}, said{opAll, "0 a=1"})
	expectSession(t, "a log that is lost", emptyDir(), said{opOpen, "0"}, said{opPut("a", "1"), "0"}, said{opPut("b", "2"), "0"}, said{opPoke("1.log", 64, "x"), "0"}, said{opClose, "0"}, said{opOpen, "0"}, said{opAll, "0 a=1"})
	expectSession(t, "CURRENT", emptyDir(), said{opOpen, "0"}, said{opPut("a", "1"), "0"}, said{opPoke("CURRENT", 9, "9"), "0"}, said{opFlush, "0"}, said{opAll, "0 a=1"}, said{opClose, "0"}, said{opOpen, "6"}, said{opPoke("CURRENT", 9, "2"), "0"}, said{opOpen, "0"}, said{opAll, "0 a=1"})
	expectSession(t, "the manifest", emptyDir(), said{opOpen, "0"}, said{opPut("a", "1"), "0"}, said{opPoke("MANIFEST-2", 0, "x"), "0"}, said{opFlush, "0"}, said{opAll, "0 a=1"}, said{opClose, "0"}, said{opOpen, "6"})
}
