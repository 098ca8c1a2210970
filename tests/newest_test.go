package tests

import (
	"slices"
	"strconv"
	"strings"
	"testing"

	"loop.example/s01733/impl"
)

// Promise 6.

type lists = [][]impl.Entry

func TestNewestOfTheDocument(t *testing.T) {
	a1, a2, a3 := put("a", 1, "one"), put("a", 2, "two"), del("a", 3)
	b1, b2 := put("b", 1, "one"), put("b", 2, "two")
	expectNewest(t, "no list", nil, nil)
	expectNewest(t, "no list", lists{}, nil)
	expectNewest(t, "empty lists", lists{nil, {}, nil}, nil)
	expectNewest(t, "one entry", lists{{a1}}, []impl.Entry{a1})
	expectNewest(t, "one entry between empty lists", lists{{}, nil, {a1}, {}}, []impl.Entry{a1})
	expectNewest(t, "one list in order", lists{{a3, a2, a1, b2, b1}}, []impl.Entry{a3, b2})
	expectNewest(t, "one list turned", lists{{b1, b2, a1, a2, a3}}, []impl.Entry{a3, b2})
	expectNewest(t, "one list of one key", lists{{a2, a1, a3}}, []impl.Entry{a3})
	expectNewest(t, "the newer first", lists{{a2, b1}, {a1, b1}}, []impl.Entry{a2, b1})
	expectNewest(t, "the newer last", lists{{a1, b1}, {a2, b2}}, []impl.Entry{a2, b2})
	expectNewest(t, "each the newest once", lists{{b2, a1}, {a2, b1}, {a3}}, []impl.Entry{a3, b2})
	expectNewest(t, "a deletion is an entry", lists{{a3}, {a1}, {del("b", 9)}}, []impl.Entry{a3, del("b", 9)})
	expectNewest(t, "lists of different sizes", lists{{a1}, {b2, a2, b1}, {}, {a3, a3}}, []impl.Entry{a3, b2})
}

func TestNewestByTheOrderOfKeys(t *testing.T) {
	keys := []string{"", "\x00", "a", "a\x00", "aa", "ab", "b", "\x7f", "\x80", "\xc3\xa4", "\xff", "\xff\x00", "\xff\xff"}
	want := []impl.Entry{}
	for i, key := range keys {
		want = append(want, put(key, 1+i%3, key))
	}
	turned := slices.Clone(want)
	slices.Reverse(turned)
	expectNewest(t, "in order", lists{want}, want)
	expectNewest(t, "turned", lists{turned}, want)
	alone := lists{}
	for _, e := range turned {
		alone = append(alone, []impl.Entry{e})
	}
	expectNewest(t, "each in a list of its own", alone, want)
}

func TestNewestOfTies(t *testing.T) {
	x, y, z := put("a", 5, "x"), put("a", 5, "y"), del("a", 5)
	old, other := put("a", 4, "old"), put("b", 1, "")
	turns := lists{{x, y, z}, {y, x, z}, {z, x, y}, {z, y, x}, {y, z, x}, {x, z, y}}
	for _, three := range turns {
		first := three[:1]
		expectNewest(t, "in one list", lists{slices.Clone(three)}, first)
		expectNewest(t, "in one list that is not in order", lists{append([]impl.Entry{other, old}, three...)}, []impl.Entry{first[0], other})
		expectNewest(t, "in three lists", lists{three[:1], three[1:2], three[2:]}, first)
		expectNewest(t, "in two lists", lists{three[:1], three[1:]}, first)
		expectNewest(t, "in two lists", lists{three[:2], three[2:]}, first)
		expectNewest(t, "behind older ones", lists{{old}, {other, old}, {other, three[0]}, {three[1], old}, {three[2]}}, []impl.Entry{first[0], other})
	}
	many := lists{}
	for i := range 100 {
		many = append(many, []impl.Entry{put("b", 1, strconv.Itoa(i)), put("a", 7, strconv.Itoa(i))})
	}
	expectNewest(t, "in a hundred lists", many, []impl.Entry{put("a", 7, "0"), put("b", 1, "0")})
	long := []impl.Entry{}
	for i := range 1000 {
		long = append(long, put("k"+strconv.Itoa(i%3), 7, strconv.Itoa(i)))
	}
	expectNewest(t, "in one long list", lists{long}, []impl.Entry{put("k0", 7, "0"), put("k1", 7, "1"), put("k2", 7, "2")})
}

func TestNewestOfEntriesThatAreNotValid(t *testing.T) {
	fat := strings.Repeat("x", 100000)
	none := impl.Entry{}
	expectNewest(t, "nothing but zeros", lists{{none}, {none}}, []impl.Entry{none})
	expectNewest(t, "Seqs at the edges", lists{{put("a", minInt, "least")}, {put("a", 0, "zero"), put("a", -1, "")}, {put("b", minInt, "")}}, []impl.Entry{put("a", 0, "zero"), put("b", minInt, "")})
	expectNewest(t, "the greatest Seq", lists{{put("a", minInt, "least"), put("a", maxInt, "most"), put("a", 3, "")}}, []impl.Entry{put("a", maxInt, "most")})
	expectNewest(t, "Seqs far apart", lists{{put("a", minInt, "")}, {put("a", maxInt, "")}, {put("a", minInt+1, "")}}, []impl.Entry{put("a", maxInt, "")})
	kinds := []impl.Entry{{Key: "a", Seq: 1, Kind: 9, Val: "v"}, {Key: "b", Seq: 2, Kind: minInt}, {Key: "c", Seq: impl.MaxSeq + 1, Kind: 0, Val: "v"}}
	expectNewest(t, "other kinds", lists{kinds}, kinds)
	expectNewest(t, "long texts", lists{{put(fat, 1, fat)}, {put(fat, 2, "")}, {put("", 1, fat)}}, []impl.Entry{put("", 1, fat), put(fat, 2, "")})
}

// crowd is lists in which keys and Seqs come up again and again.
func (d *dice) crowd(most int) lists {
	ls := lists{}
	for range d.below(most + 1) {
		list := []impl.Entry{}
		for range d.below(12) {
			list = append(list, impl.Entry{Key: d.key(), Seq: d.below(6) - 1, Kind: d.below(3), Val: strconv.Itoa(d.below(1000))})
		}
		if d.below(2) == 0 {
			slices.SortFunc(list, compareEntries)
		}
		ls = append(ls, list)
	}
	return ls
}

func (d *dice) key() string {
	return []string{"", "a", "aa", "ab", "b", "\x80", "\xff"}[d.below(7)]
}

func TestNewestAgainstAPlainOne(t *testing.T) {
	d := &dice{state: 13}
	for range 4000 {
		ls := d.crowd(9)
		expectNewest(t, "a crowd", ls, plainNewest(ls))
	}
	for range 30 {
		ls := d.crowd(300)
		expectNewest(t, "a great crowd", ls, plainNewest(ls))
	}
}

func TestNewestInParts(t *testing.T) {
	d := &dice{state: 14}
	for range 4000 {
		ls := d.crowd(8)
		cut := d.below(len(ls) + 1)
		left, right := impl.Newest(ls[:cut]), impl.Newest(ls[cut:])
		all := impl.Newest(ls)
		expectNewest(t, "of both parts", lists{left, right}, all)
		expectNewest(t, "again", lists{all}, all)
		joined := slices.Concat(ls...)
		expectNewest(t, "all in one list", lists{joined}, all)
		if len(joined) > 0 {
			at := d.below(len(joined))
			expectNewest(t, "cut within a list", lists{impl.Newest(lists{joined[:at]}), impl.Newest(lists{joined[at:]})}, all)
		}
	}
}

func TestNewestOfListsInOneMemory(t *testing.T) {
	es := []impl.Entry{put("c", 1, "x"), put("b", 2, "x"), put("a", 1, "x"), put("b", 3, "y"), put("a", 1, "z")}
	kept := slices.Clone(es)
	want := []impl.Entry{put("a", 1, "x"), put("b", 3, "y"), put("c", 1, "x")}
	if got := impl.Newest(lists{es[:3], es[1:], es, es[:0]}); !slices.Equal(got, want) {
		t.Errorf("%#v", got)
	}
	if !slices.Equal(es, kept) {
		t.Error("Newest writes into its lists")
	}
}

func TestNewestOfVeryManyEntries(t *testing.T) {
	ls, want := lists{}, []impl.Entry{}
	for i := range 2000 {
		list := []impl.Entry{}
		for j := range 50 {
			list = append(list, put("k"+strconv.Itoa(1000+(i*7+j*13)%1000), i, ""))
		}
		ls = append(ls, list)
	}
	want = plainNewest(ls)
	if got := impl.Newest(ls); !slices.Equal(got, want) {
		t.Errorf("%d entries, want %d", len(got), len(want))
	}
	if got := impl.Newest(lists{slices.Concat(ls...)}); !slices.Equal(got, want) {
		t.Errorf("in one list: %d entries, want %d", len(got), len(want))
	}
}

func TestNewestMakesATable(t *testing.T) {
	d := &dice{state: 15}
	for range 200 {
		newest := impl.Newest(lists{d.entries(d.below(40)), d.entries(d.below(40))})
		expectBothWays(t, "the newest of any entries", newest)
	}
}
