package tests

import (
	"slices"
	"strconv"
	"testing"

	"loop.example/s01733/impl"
)

func TestApplyOrdersByLevelThenNum(t *testing.T) {
	v, e := version(table(5, 1, "a", "b"), table(4, 2, "a", "b")), adding(table(3, 1, "c", "d"), table(9, 0, "x", "y"), table(8, 0, "x", "z"), table(2, 3, "m", "m"))
	want := version(table(8, 0, "x", "z"), table(9, 0, "x", "y"), table(3, 1, "c", "d"), table(5, 1, "a", "b"), table(4, 2, "a", "b"), table(2, 3, "m", "m"))
	expectApplied(t, "four adds", v, e, want, true)
	expectApplied(t, "an edit with nothing in it", v, adding(), v, true)
	expectApplied(t, "nothing in nothing", impl.Version{}, adding(), version(), true)
}

func TestApplyTakesNumbersFromTheEdit(t *testing.T) {
	e := impl.Edit{Log: 3, Next: 8, Last: 5}
	want := impl.Version{Tables: []impl.TableRef{table(1, 0, "a", "b")}, Log: 3, Next: 8, Last: 5}
	for _, n := range []int{0, 1, -1, 8, 100, minInt, maxInt} {
		v := impl.Version{Tables: want.Tables, Log: n, Next: n, Last: n}
		expectApplied(t, "a version with "+strconv.Itoa(n), v, e, want, true)
	}
	// Numbers may go back: only Next stands above all others.
	expectApplied(t, "a Last that goes back", impl.Version{Last: 100}, impl.Edit{Log: 1, Next: 2}, impl.Version{Log: 1, Next: 2}, true)
}

func TestApplyTakesTheVersionAsItIs(t *testing.T) {
	v := impl.Version{Tables: []impl.TableRef{table(9, 2, "a", "b"), table(3, 1, "x", "y"), table(7, 2, "c", "d"), table(4, 0, "q", "a")}}
	want := version(table(4, 0, "q", "a"), table(3, 1, "x", "y"), table(7, 2, "c", "d"), table(9, 2, "a", "b"))
	expectApplied(t, "a version out of order", v, adding(), want, true)
	odd := impl.Version{Tables: []impl.TableRef{table(0, 0, "", ""), table(-4, 9, "", ""), table(-5, -2, "k", "a"), table(-6, -2, "k", "a")}}
	want = version(table(-6, -2, "k", "a"), table(-5, -2, "k", "a"), table(0, 0, "", ""), table(-4, 9, "", ""))
	expectApplied(t, "tables that no edit could add", odd, adding(), want, true)
	expectNotApplied(t, "a number that no edit may delete", odd, deleting(0))
	odd.Tables = append(odd.Tables, table(2, 9, "", "b"))
	expectNotApplied(t, "ranges that meet at a level of no edit", odd, adding())
}

func TestApplyDels(t *testing.T) {
	v := version(table(1, 0, "a", "b"), table(2, 0, "a", "b"), table(3, 1, "a", "b"))
	expectApplied(t, "one", v, deleting(2), version(v.Tables[0], v.Tables[2]), true)
	expectApplied(t, "all, in another order", v, deleting(3, 1, 2), version(), true)
	expectApplied(t, "one twice", v, deleting(1, 1), version(v.Tables[1], v.Tables[2]), true)
	expectApplied(t, "one twice, with another between", v, deleting(1, 3, 1), version(v.Tables[1]), true)
	expectNotApplied(t, "one that no table has", v, deleting(4))
	expectNotApplied(t, "one that no table has, behind one that a table has", v, deleting(1, 4))
	expectNotApplied(t, "one that no table has, before one that a table has", v, deleting(4, 1))
	expectNotApplied(t, "the log's", v, deleting(7))
	expectNotApplied(t, "of no tables", impl.Version{}, deleting(1))
	e := adding(table(4, 0, "a", "b"))
	e.Dels = []int{4}
	expectNotApplied(t, "one that only an Add has", v, e)
	v.Tables = append(v.Tables, table(1, 2, "c", "d"))
	expectApplied(t, "one that two tables have", v, deleting(1), version(v.Tables[1], v.Tables[2]), true)
	expectNotApplied(t, "another than the one that two tables have", v, deleting(2))
}

func TestApplyNumbersInUse(t *testing.T) {
	v := version(table(1, 0, "a", "b"), table(2, 1, "a", "b"))
	for level := range 4 {
		expectNotApplied(t, "one in use", v, adding(table(1, level, "k", "l")))
		expectNotApplied(t, "one in use, behind another", v, adding(table(3, 0, "k", "l"), table(2, level, "k", "l")))
		expectNotApplied(t, "one twice among the Adds", v, adding(table(3, level, "k", "l"), table(3, 0, "m", "n")))
		e := adding(table(1, level, "k", "l"))
		e.Dels = []int{1}
		want := []impl.TableRef{table(1, level, "k", "l"), v.Tables[1]}
		if level > 1 {
			slices.Reverse(want)
		}
		expectApplied(t, "one in use and deleted", v, e, version(want...), true)
		e.Adds = append(e.Adds, table(1, 0, "k", "l"))
		expectNotApplied(t, "one in use, deleted, and twice among the Adds", v, e)
		e.Adds, e.Dels = e.Adds[:1], []int{2}
		expectNotApplied(t, "one in use, and another deleted", v, e)
	}
	for i := range 6 {
		for j := range i {
			refs := tables(3, 6)
			refs[i].Num = refs[j].Num
			expectNotApplied(t, "Adds "+strconv.Itoa(j)+" and "+strconv.Itoa(i)+" with one Num", v, adding(refs...))
			expectNotApplied(t, "the same without tables before", impl.Version{}, adding(refs...))
		}
	}
	e := adding(v.Tables...)
	e.Dels = []int{1, 2}
	expectApplied(t, "all over again", v, e, v, true)
	twice := version(table(1, 0, "a", "b"), table(1, 0, "a", "b"))
	expectNotApplied(t, "one twice in the version", twice, adding())
	twice = version(table(1, 0, "a", "b"), table(2, 0, "a", "b"), table(1, 1, "a", "b"))
	expectNotApplied(t, "one twice in the version, apart", twice, adding())
	e = adding(table(1, 2, "c", "d"))
	e.Dels = []int{1}
	expectApplied(t, "one twice in the version, deleted and added", twice, e, version(table(2, 0, "a", "b"), table(1, 2, "c", "d")), true)
}

func TestApplyBelowNext(t *testing.T) {
	for _, c := range []struct {
		old, add, log, next int
		ok                  bool
	}{
		{4, 3, 3, 5, true}, {5, 3, 3, 5, false}, {6, 3, 3, 5, false},
		{3, 4, 3, 5, true}, {3, 5, 3, 5, false}, {3, 6, 3, 5, false},
		{2, 3, 4, 5, true}, {2, 3, 5, 5, false}, {2, 3, 6, 5, false},
		{2, 3, 3, 4, true}, {999999997, 999999998, 999999998, 999999999, true}, {1, 999999999, 2, 999999999, false},
		{maxInt, 3, 3, 5, false}, {minInt, 3, 3, 5, true},
	} {
		what := strconv.Itoa(c.old) + " " + strconv.Itoa(c.add) + " " + strconv.Itoa(c.log) + " " + strconv.Itoa(c.next)
		v := version(table(c.old, 0, "a", "b"))
		e := impl.Edit{Adds: []impl.TableRef{table(c.add, 1, "a", "b")}, Log: c.log, Next: c.next}
		want := impl.Version{}
		if c.ok {
			want = impl.Version{Tables: []impl.TableRef{v.Tables[0], e.Adds[0]}, Log: c.log, Next: c.next}
		}
		expectApplied(t, what, v, e, want, c.ok)
	}
	e := impl.Edit{Dels: []int{9}, Log: 3, Next: 5}
	expectApplied(t, "a table at Next that is deleted", version(table(9, 0, "a", "b")), e, impl.Version{Log: 3, Next: 5}, true)
	// The log may have the number of a table: only Next stands above both.
	e = impl.Edit{Adds: []impl.TableRef{table(3, 0, "a", "b")}, Log: 3, Next: 4}
	expectApplied(t, "a log with the number of a table", impl.Version{}, e, impl.Version{Tables: e.Adds, Log: 3, Next: 4}, true)
}

func TestApplyInvalidEdits(t *testing.T) {
	v := version(table(1, 0, "a", "b"))
	expectNotApplied(t, "the zero edit", v, impl.Edit{})
	for _, r := range []impl.TableRef{table(0, 0, "a", "b"), table(-1, 0, "a", "b"), table(2, -1, "a", "b"), table(2, 4, "a", "b"), table(2, 0, "", "b"), table(2, 0, "a", ""), table(2, 0, "b", "a")} {
		expectNotApplied(t, "an Add", v, adding(r))
	}
	expectNotApplied(t, "Log 0", v, impl.Edit{Log: 0, Next: 5})
	expectNotApplied(t, "Next above MaxNum", v, impl.Edit{Log: 1, Next: impl.MaxNum + 1})
	expectNotApplied(t, "Last below 0", v, impl.Edit{Log: 1, Next: 5, Last: -1})
	expectNotApplied(t, "Last above MaxSeq", v, impl.Edit{Log: 1, Next: 5, Last: impl.MaxSeq + 1})
	expectNotApplied(t, "1001 Dels", v, deleting(slices.Repeat([]int{1}, 1001)...))
	expectApplied(t, "1000 Dels", v, deleting(slices.Repeat([]int{1}, 1000)...), version(), true)
}

// Two tables, in either order and either place, at each level.
func TestApplyRanges(t *testing.T) {
	cases := []struct {
		lo1, hi1, lo2, hi2 string
		apart              bool
	}{
		{"a", "b", "c", "d", true}, {"a", "b", "b", "c", false}, {"a", "c", "b", "d", false}, {"a", "d", "b", "c", false},
		{"a", "b", "a", "b", false}, {"a", "a", "a", "a", false}, {"a", "a", "b", "b", true}, {"a", "b", "a", "a", false},
		{"a", "c", "b", "b", false}, {"a", "b", "b\x00", "c", true}, {"a", "bb", "b", "c", false}, {"a", "b", "bb", "c", true},
		{"a", "\x7f", "\x80", "\xff", true}, {"a", "\x80", "\x80", "\xff", false},
		// Ranges that end ahead of their beginning, which only a version has.
		{"d", "a", "b", "c", true}, {"c", "b", "a", "d", false}, {"c", "b", "b", "d", false}, {"c", "b", "a", "c", false},
		{"c", "b", "bb", "d", true}, {"c", "b", "a", "bb", true}, {"c", "b", "c", "b", true}, {"c", "b", "a", "a", true}, {"c", "b", "d", "d", true},
	}
	for _, c := range cases {
		for level := range 4 {
			for _, swap := range []bool{false, true} {
				a, b := table(1, level, c.lo1, c.hi1), table(2, level, c.lo2, c.hi2)
				if swap {
					a.Num, b.Num = 2, 1
				}
				what := a.Lo + a.Hi + " " + b.Lo + b.Hi + " at level " + strconv.Itoa(level)
				expectRanges(t, what, c.apart || level == 0, a, b)
				expectRanges(t, what, c.apart || level == 0, b, a)
				b.Level = (level + 1) % 4
				expectRanges(t, what+" and another", true, a, b)
			}
		}
	}
}

// expectRanges has the two in the version, and, where an edit may add them, one
// or both in the edit.
func expectRanges(t *testing.T, what string, apart bool, a impl.TableRef, b impl.TableRef) {
	t.Helper()
	want := impl.Version{}
	if apart {
		want = version(a, b)
		if b.Level < a.Level || b.Level == a.Level && b.Num < a.Num {
			slices.Reverse(want.Tables)
		}
	}
	expectApplied(t, what+" in the version", version(a, b), adding(), want, apart)
	if b.Lo <= b.Hi {
		expectApplied(t, what+" in both", version(a), adding(b), want, apart)
	}
	if a.Lo <= a.Hi && b.Lo <= b.Hi {
		expectApplied(t, what+" in the edit", impl.Version{}, adding(a, b), want, apart)
	}
}

func TestApplyRangesOfDeletedTables(t *testing.T) {
	v := version(table(1, 1, "a", "m"), table(2, 1, "n", "z"))
	e := adding(table(3, 1, "a", "z"))
	e.Dels = []int{1}
	expectNotApplied(t, "one is left", v, e)
	e.Dels = []int{1, 2}
	expectApplied(t, "none is left", v, e, version(e.Adds...), true)
	met := version(table(1, 1, "a", "m"), table(2, 1, "m", "z"))
	expectApplied(t, "ranges of the version that meet, one deleted", met, deleting(2), version(met.Tables[0]), true)
	expectNotApplied(t, "ranges of the version that meet, neither deleted", met, adding())
}

func TestApplyAtMost1000Tables(t *testing.T) {
	sizes := []struct {
		old, adds, dels int
		ok              bool
	}{
		{0, 1000, 0, true}, {1, 999, 0, true}, {1, 1000, 0, false}, {1, 1000, 1, true}, {500, 500, 0, true}, {500, 501, 0, false},
		{1000, 0, 0, true}, {1000, 1, 0, false}, {1000, 1, 1, true}, {1000, 1000, 1000, true}, {1000, 1000, 999, false},
		{1001, 0, 0, false}, {1001, 0, 1, false}, {1001, 0, 1000, false},
	}
	for _, c := range sizes {
		v, e := version(tables(1, c.old)...), adding(tables(2001, c.adds)...)
		e.Dels = numbers(1, c.dels)
		want := impl.Version{}
		if c.ok {
			want = version(append(slices.Clone(v.Tables[c.dels:]), e.Adds...)...)
		}
		what := strconv.Itoa(c.old) + " and " + strconv.Itoa(c.adds) + " without " + strconv.Itoa(c.dels)
		expectApplied(t, what, v, e, want, c.ok)
	}
}

// A thousand ranges beside each other, given from the last to the first.
func TestApplyManyRanges(t *testing.T) {
	refs := []impl.TableRef{}
	for i := range 1000 {
		key := strconv.Itoa(10000 + i)
		refs = append(refs, table(1+i, 2, key+"a", key+"z"))
	}
	want := version(slices.Clone(refs)...)
	slices.Reverse(refs)
	expectApplied(t, "a thousand apart", version(refs[:500]...), adding(refs[500:]...), want, true)
	for _, i := range []int{0, 1, 499, 500, 998} {
		hurt := slices.Clone(refs)
		hurt[i].Lo = hurt[i+1].Hi
		expectNotApplied(t, "two meet at "+strconv.Itoa(i), version(hurt[:500]...), adding(hurt[500:]...))
	}
}

// smallRef has few numbers and keys, so that they meet often. An edit's range
// is never the wrong way round; a version's may be.
func (d *dice) smallRef(straight bool) impl.TableRef {
	keys := []string{"a", "b", "c", "d", "e", "f", "g", "h", "ab", "cd", "ef", "gh"}
	lo, hi := keys[d.below(len(keys))], keys[d.below(len(keys))]
	if d.below(2) == 0 {
		hi = lo
	}
	if straight && lo > hi {
		lo, hi = hi, lo
	}
	return table(1+d.below(12), d.below(3), lo, hi)
}

func TestApplyAgainstThePlainWords(t *testing.T) {
	d := &dice{state: 13}
	applied := 0
	for range 60000 {
		v := impl.Version{Log: d.below(9), Next: d.below(9), Last: d.below(9)}
		for range d.below(5) {
			v.Tables = append(v.Tables, d.smallRef(d.below(4) > 0))
		}
		e := impl.Edit{Log: 1 + d.below(8), Next: 6 + d.below(9), Last: d.below(9)}
		for range d.below(3) {
			e.Adds = append(e.Adds, d.smallRef(true))
		}
		for range d.below(3) {
			num := 1 + d.below(12)
			if len(v.Tables) > 0 && d.below(8) > 0 {
				num = v.Tables[d.below(len(v.Tables))].Num
			}
			e.Dels = append(e.Dels, num)
		}
		want, ok := plainApply(v, e)
		if ok {
			applied++
		}
		got, gotOk := impl.ApplyEdit(v, e)
		if gotOk != ok || !sameVersion(got, want) {
			t.Fatalf("%#v with %#v gave %#v %v, want %#v %v", v, e, got, gotOk, want, ok)
		}
	}
	if applied < 10000 || applied > 50000 {
		t.Errorf("%d of 60000 edits are applied: the dice are loaded", applied)
	}
}
