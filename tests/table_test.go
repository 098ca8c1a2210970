package tests

import (
	"slices"
	"strconv"
	"strings"
	"testing"

	"loop.example/s01733/impl"
)

// Promise 5.

func TestTablesAsTheDocumentWritesThem(t *testing.T) {
	framed := func(kind byte, payload string) string {
		return plainFrame(int(kind), len(payload), crcOf(string([]byte{kind})+payload), payload, "")
	}
	expectBuilt(t, "no entry", nil, framed('I', "\x00")+framed('F', "\x00"))
	expectBuilt(t, "no entry", []impl.Entry{}, framed('I', "\x00")+framed('F', "\x00"))
	expectBuilt(t, "one", []impl.Entry{put("key", 5, "val")},
		framed('B', "\x01\x03key\x05\x01\x03val")+framed('I', "\x01\x00\x01\x03key\x03key")+framed('F', "\x01"))
	expectBuilt(t, "a put and a deletion", []impl.Entry{put("a", 300, "x"), del("a", 2)},
		framed('B', "\x02\x01a\xac\x02\x01\x01x\x01a\x02\x00\x00")+framed('I', "\x01\x00\x02\x01a\x01a")+framed('F', "\x01"))
	nine := []impl.Entry{}
	for _, key := range strings.Split("abcdefghi", "") {
		nine = append(nine, put(key, 7, "0123456789"))
	}
	eight := "\x08"
	for _, key := range strings.Split("abcdefgh", "") {
		eight += "\x01" + key + "\x07\x01\x0a0123456789"
	}
	expectBuilt(t, "two blocks, the first of three pages", nine,
		framed('B', eight)+framed('B', "\x01\x01i\x07\x01\x0a0123456789")+framed('I', "\x02\x00\x08\x01a\x01h\x03\x01\x01i\x01i")+framed('F', "\x04"))
}

func TestTablesThereAndBack(t *testing.T) {
	d := &dice{state: 31}
	for _, n := range []int{0, 1, 2, 7, 8, 9, 15, 16, 17, 24, 25, 64, 65, 1000, 5000} {
		expectBothWays(t, "small keys "+strconv.Itoa(n), letters(n))
		expectBothWays(t, "any keys "+strconv.Itoa(n), d.sortedList(n))
	}
	for range 300 {
		expectBothWays(t, "any list", d.sortedList(d.below(40)))
	}
}

func TestTablesOfEdges(t *testing.T) {
	long, great := strings.Repeat("k", impl.MaxKey), strings.Repeat("v", impl.MaxVal)
	lists := map[string][]impl.Entry{
		"one key, several Seqs":      {put("a", 9, "x"), del("a", 8), put("a", 2, ""), del("a", 1)},
		"the least and the greatest": {put("\x00", impl.MaxSeq, great), del("\x00", 1), put(long, impl.MaxSeq, great), del(long, 1)},
		"one begins with the other":  {put("a", 1, ""), put("a\x00", 9, ""), put("aa", 5, ""), put("ab", 7, ""), put("b", 1, "")},
		"bytes above 127":            {put("a", 1, ""), put("z", 1, ""), put("z\xff", 1, ""), put("\x7f", 1, ""), put("\x80", 2, "\xff"), put("\xc3\xa4", 1, ""), put("\xff", 1, ""), put("\xff\x00", 1, ""), put("\xff\xff", 1, "")},
		"Seqs that grow with keys":   {put("a", 1, ""), put("b", 2, ""), put("c", 3, "")},
		"a deletion alone":           {del("a", 1)},
	}
	for what, es := range lists {
		expectBothWays(t, what, es)
	}
	oneKey := []impl.Entry{}
	for seq := 20; seq > 0; seq-- {
		oneKey = append(oneKey, put("the same", seq, strconv.Itoa(seq)))
	}
	expectBothWays(t, "one key in three blocks", oneKey)
	fat := []impl.Entry{}
	for i := range 40 {
		fat = append(fat, put(strings.Repeat("k", impl.MaxKey-2)+strconv.Itoa(10+i), 1+i, great))
	}
	expectBothWays(t, "blocks of many pages", fat)
}

func TestTablesOfVeryManyEntries(t *testing.T) {
	es := make([]impl.Entry, impl.MaxEntries+1)
	for i := range es {
		es[i] = del(string([]byte{byte(i >> 16), byte(i >> 8), byte(i)}), 1)
	}
	most := es[:impl.MaxEntries]
	s := impl.BuildTable(most)
	if s == "" {
		t.Fatal("as many as may be give no table")
	}
	expectTable(t, "as many as may be", s, most, true)
	expectNotBuilt(t, "one more", es)
	blocks := []string{}
	p := parts{}
	for _, b := range eights(es) {
		p.refs = append(p.refs, ref{page: p.foot, count: len(b), first: b[0].Key, last: b[len(b)-1].Key})
		blocks = append(blocks, blockText(b))
		p.foot += len(blocks[len(blocks)-1]) / 64
	}
	p.count = len(p.refs)
	expectNoTable(t, "the text of one more", strings.Join(blocks, "")+p.index()+p.end())
}

// fatIndex is a list whose index has a payload of just so many bytes. Its last
// blocks make up what is missing: their page numbers have as many bytes, however
// long their keys are.
func fatIndex(t *testing.T, size int) []impl.Entry {
	t.Helper()
	const full, blocks = 500, 526
	es := []impl.Entry{}
	borders := []int{}
	for i := range blocks * 8 {
		key := strconv.Itoa(10000 + i)
		if i%8 == 0 || i%8 == 7 {
			key += strings.Repeat("k", 195)
			if i < full*8 {
				key += strings.Repeat("k", 800)
			} else {
				borders = append(borders, i)
			}
		}
		es = append(es, del(key, 1))
	}
	missing := size - len(partsOf(eights(es)...).indexPayload())
	for _, i := range borders {
		grown := min(missing, 800)
		es[i].Key += strings.Repeat("k", grown)
		missing -= grown
	}
	if got := len(partsOf(eights(es)...).indexPayload()); got != size {
		t.Fatalf("an index of %d bytes, not of %d", got, size)
	}
	return es
}

func TestTablesWithAnIndexThatIsTooLong(t *testing.T) {
	for _, size := range []int{impl.MaxPayload - 1, impl.MaxPayload} {
		expectBothWays(t, "an index of "+strconv.Itoa(size), fatIndex(t, size))
	}
	es := fatIndex(t, impl.MaxPayload+1)
	expectNotBuilt(t, "an index of one byte too many", es)
	expectNoTable(t, "its text as far as there is one", partsOf(eights(es)...).text())
	expectNotBuilt(t, "an index far too long", append(es, fatAfter(es)...))
}

// fatAfter is as many long keys again, behind those of es.
func fatAfter(es []impl.Entry) []impl.Entry {
	more := []impl.Entry{}
	for i := range es {
		more = append(more, del("z"+strconv.Itoa(10000+i)+strings.Repeat("z", 990), 1))
	}
	return more
}

func TestListsWithAnEntryThatIsNotValid(t *testing.T) {
	wrong := map[string]impl.Entry{
		"no key":              put("", 5, ""),
		"a key too long":      put("k2"+strings.Repeat("x", impl.MaxKey-1), 5, ""),
		"Seq 0":               put("k2", 0, ""),
		"Seq below 0":         put("k2", -1, ""),
		"the least Seq":       put("k2", minInt, ""),
		"a Seq too great":     put("k2", impl.MaxSeq+1, ""),
		"the greatest Seq":    del("k2", maxInt),
		"a value too long":    put("k2", 5, strings.Repeat("x", impl.MaxVal+1)),
		"a deletion's value":  {Key: "k2", Seq: 5, Kind: impl.KindDelete, Val: "v"},
		"Kind 2":              {Key: "k2", Seq: 5, Kind: 2},
		"Kind -1":             {Key: "k2", Seq: 5, Kind: -1},
		"Kind 257":            {Key: "k2", Seq: 5, Kind: 257},
		"nothing but zeros":   {},
		"a key far too long":  put(strings.Repeat("k", 100000), 5, ""),
		"a value far too big": put("k2", 5, strings.Repeat("x", impl.MaxPayload+1)),
	}
	for what, e := range wrong {
		expectNotBuilt(t, what+", alone", []impl.Entry{e})
		for _, n := range []int{7, 8, 16, 20} {
			for _, at := range []int{0, 1, n / 2, n - 1, n} {
				// The entries on its left come before it, those on its right
				// behind, as far as its key lets them.
				es := []impl.Entry{}
				for i := range at {
					es = append(es, put("k1"+strconv.Itoa(100+i), 1, ""))
				}
				es = append(es, e)
				for i := range n - at {
					es = append(es, put("k3"+strconv.Itoa(100+i), 1, ""))
				}
				expectNotBuilt(t, what+" at "+strconv.Itoa(at)+" of "+strconv.Itoa(n), es)
			}
		}
	}
}

func TestListsThatAreNotInOrder(t *testing.T) {
	lists := map[string][]impl.Entry{
		"keys turned":                {put("b", 1, ""), put("a", 2, "")},
		"keys turned, Seqs too":      {put("b", 2, ""), put("a", 1, "")},
		"the smaller Seq first":      {put("a", 1, ""), put("a", 2, "")},
		"the same Seq twice":         {put("a", 1, ""), put("a", 1, "")},
		"twice, with other values":   {put("a", 1, "x"), put("a", 1, "y")},
		"twice, with other kinds":    {put("a", 1, ""), del("a", 1)},
		"the longer one first":       {put("ab", 1, ""), put("a", 1, "")},
		"above 127 first":            {put("\x80", 1, ""), put("\x7f", 1, "")},
		"turned at the end":          {put("a", 1, ""), put("b", 1, ""), put("d", 1, ""), put("c", 1, "")},
		"a small Seq between others": {put("a", 3, ""), put("a", 1, ""), put("a", 2, "")},
	}
	for what, es := range lists {
		expectNotBuilt(t, what, es)
		expectNoTable(t, what, partsOf(eights(es)...).text())
	}
	for at := range 19 {
		turned := letters(20)
		turned[at], turned[at+1] = turned[at+1], turned[at]
		expectNotBuilt(t, "turned at "+strconv.Itoa(at), turned)
		expectNoTable(t, "turned at "+strconv.Itoa(at), partsOf(eights(turned)...).text())
		twice := slices.Insert(letters(20), at, letters(20)[at])
		expectNotBuilt(t, "twice at "+strconv.Itoa(at), twice)
		expectNoTable(t, "twice at "+strconv.Itoa(at), partsOf(eights(twice)...).text())
	}
}

func TestTextsOfTablesCutOrLonger(t *testing.T) {
	expectNoTable(t, "the empty text", "")
	expectNoTable(t, "a page of zeros", strings.Repeat("\x00", 64))
	page := strings.Repeat("\x00", 64)
	for _, n := range []int{0, 1, 8, 9, 17} {
		s := partsOf(eights(letters(n))...).text()
		expectTable(t, "whole", s, letters(n), true)
		for size := range len(s) {
			expectNoTable(t, "cut at "+strconv.Itoa(size), s[:size])
		}
		for at := 0; at < len(s); at += 64 {
			what := strconv.Itoa(n) + " entries, page " + strconv.Itoa(at/64)
			expectNoTable(t, what+" out", s[:at]+s[at+64:])
			expectNoTable(t, what+" twice", s[:at+64]+s[at:])
			expectNoTable(t, what+" of zeros", s[:at]+page+s[at+64:])
			expectNoTable(t, what+" ahead of one of zeros", s[:at+64]+page+s[at+64:])
			expectNoTable(t, what+" without a byte", s[:at]+s[at+1:])
			expectNoTable(t, what+" with a byte more", s[:at]+"\x00"+s[at:])
		}
		for _, more := range []string{"\x00", "x", page, s[len(s)-64:], s, impl.Frame(impl.FrameMark, "")} {
			expectNoTable(t, "with more behind", s+more)
			expectNoTable(t, "with more ahead", more+s)
		}
	}
}

func TestTablesWithOneByteChanged(t *testing.T) {
	for _, n := range []int{0, 1, 9} {
		s := partsOf(eights(letters(n))...).text()
		for at := range s {
			for b := range 256 {
				if byte(b) != s[at] {
					expectNoTable(t, "byte "+strconv.Itoa(at), withByte(s, at, byte(b)))
				}
			}
		}
	}
}

func TestTablesWithOtherBlocks(t *testing.T) {
	es := letters(16)
	blocks := map[string][][]impl.Entry{
		"one great block":       {es},
		"7 and 9":               {es[:7], es[7:]},
		"8 and 7 and 1":         {es[:8], es[8:15], es[15:]},
		"4 each":                {es[:4], es[4:8], es[8:12], es[12:]},
		"1 ahead":               {es[:1], es[1:9], es[9:]},
		"an empty one behind":   {es[:8], es[8:], {}},
		"an empty one ahead":    {{}, es[:8], es[8:]},
		"an empty one between":  {es[:8], {}, es[8:]},
		"nothing but empty one": {{}},
		"in another order":      {es[8:], es[:8]},
		"one twice":             {es[:8], es[:8], es[8:]},
		"both over and over":    {es[:8], es[8:], es[:8], es[8:]},
	}
	for what, b := range blocks {
		expectNoTable(t, what, partsOf(b...).text())
	}
	expectTable(t, "as it should be", partsOf(es[:8], es[8:]).text(), es, true)
	good := partsOf(es[:8], es[8:])
	turned := good
	turned.blocks = [][]impl.Entry{es[8:], es[:8]}
	expectNoTable(t, "blocks turned, the index not", turned.text())
	fewer := good
	fewer.blocks = good.blocks[:1]
	expectNoTable(t, "a block that is not there", fewer.text())
	for what, payload := range map[string]string{
		"nothing": "", "junk": "junk", "a byte more": entriesText(es[:8]) + "\x00", "a byte less": entriesText(es[:8])[:10],
		"an entry that is not valid": entriesText([]impl.Entry{put("", 1, "")}),
	} {
		expectNoTable(t, "a block of "+what, impl.Frame(impl.FrameBlock, payload)+good.index()+good.end())
		expectNoTable(t, "a second block of "+what, blockText(es[:8])+impl.Frame(impl.FrameBlock, payload)+good.index()+good.end())
	}
}

func TestTablesWithAnotherIndexOrFoot(t *testing.T) {
	good := partsOf(eights(letters(20))...)
	changes := map[string]func(p *parts){
		"a block fewer":       func(p *parts) { p.count-- },
		"a block more":        func(p *parts) { p.count++ },
		"another page":        func(p *parts) { p.refs[1].page++ },
		"another first page":  func(p *parts) { p.refs[0].page = 1 },
		"another count":       func(p *parts) { p.refs[2].count-- },
		"another first key":   func(p *parts) { p.refs[1].first = p.refs[0].first },
		"a shorter first key": func(p *parts) { p.refs[1].first = p.refs[1].first[1:] },
		"another last key":    func(p *parts) { p.refs[1].last += "x" },
		"refs turned":         func(p *parts) { p.refs[0], p.refs[1] = p.refs[1], p.refs[0] },
		"the last ref out":    func(p *parts) { p.refs = p.refs[:2] },
		"the last out, told":  func(p *parts) { p.refs = p.refs[:2]; p.count = 2 },
		"a ref twice":         func(p *parts) { p.refs = append(p.refs, p.refs[2]) },
		"a foot too great":    func(p *parts) { p.foot++ },
		"a foot too small":    func(p *parts) { p.foot-- },
		"a foot of 0":         func(p *parts) { p.foot = 0 },
		"no refs":             func(p *parts) { p.refs = nil; p.count = 0 },
	}
	for what, change := range changes {
		p := good
		p.refs = slices.Clone(good.refs)
		change(&p)
		expectNoTable(t, what, p.text())
	}
	body, index, end := good.body(), good.index(), good.end()
	otherIndex := func(payload string) string { return impl.Frame(impl.FrameIndex, payload) }
	otherEnd := func(payload string) string { return impl.Frame(impl.FrameFoot, payload) }
	none := otherIndex("\x00") + otherEnd("\x00")
	for what, s := range map[string]string{
		"no index":                      body + end,
		"no foot":                       body + index,
		"neither":                       body,
		"two indexes":                   body + index + index + end,
		"two feet":                      body + index + end + end,
		"two of both":                   body + index + end + index + end,
		"the foot first":                body + end + index,
		"the index first":               index + body + end,
		"index and foot first":          index + end + body,
		"an index between the blocks":   blockText(letters(20)[:8]) + index + body[len(blockText(letters(20)[:8])):] + end,
		"an index with a byte more":     body + otherIndex(good.indexPayload()+"\x00") + end,
		"an index with a byte less":     body + otherIndex(good.indexPayload()[:len(good.indexPayload())-1]) + end,
		"an empty index":                body + otherIndex("") + end,
		"a foot with a byte more":       body + index + otherEnd(varint(good.foot)+"\x00"),
		"an empty foot":                 body + index + otherEnd(""),
		"an index as another kind":      body + impl.Frame(impl.FrameMark, good.indexPayload()) + end,
		"a foot as another kind":        body + index + impl.Frame(impl.FrameIndex, varint(good.foot)),
		"blocks as batches":             strings.ReplaceAll(body, "B", "W") + index + end,
		"a mark between":                body + impl.Frame(impl.FrameMark, "") + index + end,
		"a batch ahead":                 batch("") + body + index + end,
		"the empty table, an index out": otherEnd("\x00"),
		"the empty table, a foot out":   otherIndex("\x00"),
		"the empty table, turned":       otherEnd("\x00") + otherIndex("\x00"),
		"the empty table twice":         none + none,
		"the empty table behind one":    good.text() + none,
		"the empty table's foot at 1":   otherIndex("\x00") + otherEnd("\x01"),
		"a varint that is too long":     otherIndex("\x80\x00") + otherEnd("\x00"),
	} {
		expectNoTable(t, what, s)
	}
}

// jumble is a text of frames, some of them of one table and some not.
func (d *dice) jumble() string {
	es := d.sortedList(d.below(30))
	p := partsOf(eights(es)...)
	if len(p.blocks) > 0 && d.below(3) == 0 {
		cut := d.below(len(es))
		p = partsOf(append(eights(es[:cut]), eights(es[cut:])...)...)
	}
	switch d.below(6) {
	case 0:
		p.foot += d.below(3)
	case 1:
		p.count = d.below(5)
	case 2:
		return p.body() + impl.Frame(impl.FrameIndex, d.edited(p.indexPayload())) + p.end()
	case 3:
		return p.body() + d.edited(p.index()+p.end())
	case 4:
		for i, b := range p.blocks {
			if d.below(3) == 0 {
				return strings.Replace(p.text(), blockText(b), impl.Frame(impl.FrameBlock, d.edited(entriesText(b))), 1) + strings.Repeat("?", i%2)
			}
		}
	}
	return p.text()
}

func TestTablesAreReadOnlyAsBuilt(t *testing.T) {
	d := &dice{state: 77}
	read := 0
	for range 6000 {
		if expectOnlyBuilt(t, d.jumble()) {
			read++
		}
	}
	if read < 500 || read > 5500 {
		t.Errorf("%d of the texts are tables: nothing is shown by that", read)
	}
}

func TestTablesAreNew(t *testing.T) {
	es := letters(17)
	s := impl.BuildTable(es)
	kept := strings.Clone(s)
	es[0], es[16] = put("other", 1, ""), del("zz", 1)
	if s != kept {
		t.Error("a table changes with the list that it was built of")
	}
	first, _ := impl.ReadTable(s)
	for i := range first {
		first[i] = impl.Entry{}
	}
	expectTable(t, "read again", s, letters(17), true)
	roomy := letters(24)
	expectBuilt(t, "a list with room behind it", roomy[:17], s)
	if !slices.Equal(roomy, letters(24)) {
		t.Error("BuildTable writes behind its list")
	}
}
