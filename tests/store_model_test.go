package tests

import (
	"regexp"
	"slices"
	"sort"
	"strconv"
	"strings"

	"loop.example/s01733/impl"
)

// plainStore is chapter 5 told once more, sentence by sentence, on the plain
// directory and its steps. The walks hold the program against it.
type plainStore struct {
	fs       impl.FS
	mode     int
	version  impl.Version
	manifest string
	mem      []impl.Entry
	last     int
	made     []string // files of this operation that are not in use yet
}

// stop is what an operation that ends ahead of its end panics with.
type stop struct{ code int }

func (p *plainStore) do(s step) {
	fs, code := s.take(p.fs)
	p.fs = fs
	switch code {
	case impl.FsOk:
	case impl.FsDead:
		panic(stop{impl.RunDead})
	case impl.FsQuota, impl.FsLimit:
		panic(stop{impl.RunFull})
	default:
		panic("the model's own step " + s.what + " has code " + strconv.Itoa(code))
	}
}

func (p *plainStore) make(name string) {
	p.do(create(name))
	p.made = append(p.made, name)
}

func (p *plainStore) makeWith(name string, data string) {
	p.make(name)
	p.do(appendTo(name, data))
	p.do(syncFile(name))
}

var storeNames = regexp.MustCompile(`^(?:CURRENT|CURRENT\.tmp|MANIFEST-([1-9][0-9]{0,8})|([1-9][0-9]{0,8})\.(?:log|sst))$`)

func isStoreName(name string) bool {
	return storeNames.MatchString(name)
}

func storeNumber(name string) int {
	parts := storeNames.FindStringSubmatch(name)
	if parts == nil {
		return 0
	}
	n, _ := strconv.Atoi(parts[1] + parts[2])
	return n
}

func isLog(name string) bool {
	return isStoreName(name) && strings.HasSuffix(name, ".log")
}

func isTable(name string) bool {
	return isStoreName(name) && strings.HasSuffix(name, ".sst")
}

func isManifest(name string) bool {
	return isStoreName(name) && strings.HasPrefix(name, "MANIFEST-")
}

func plainFits(fs impl.FS, ref impl.TableRef, last int) ([]impl.Entry, bool) {
	data, there := impl.FsFind(fs, strconv.Itoa(ref.Num)+".sst")
	es, ok := impl.ReadTable(data)
	if !there || !ok || len(es) == 0 || es[0].Key != ref.Lo || es[len(es)-1].Key != ref.Hi {
		return nil, false
	}
	for _, e := range es {
		if e.Seq > last {
			return nil, false
		}
	}
	return es, true
}

// plainTables gives the entries of each of the tables; false if one does not fit.
func plainTables(fs impl.FS, refs []impl.TableRef, last int) ([][]impl.Entry, bool) {
	lists := [][]impl.Entry{}
	for _, ref := range refs {
		es, ok := plainFits(fs, ref, last)
		if !ok {
			return nil, false
		}
		lists = append(lists, es)
	}
	return lists, true
}

func plainLogs(fs impl.FS, v impl.Version) ([]impl.Entry, bool) {
	logs := []int{}
	for _, f := range fs.Files {
		if isLog(f.Name) && storeNumber(f.Name) >= v.Log {
			logs = append(logs, storeNumber(f.Name))
		}
	}
	sort.Ints(logs)
	logged := []impl.Entry{}
	for _, n := range logs {
		payloads, _ := impl.ReadLog(fileOf(fs, strconv.Itoa(n)+".log").Data, impl.FrameBatch)
		for _, payload := range payloads {
			es, ok := impl.DecodeEntries(payload)
			if !ok || len(es) == 0 {
				return nil, false
			}
			logged = append(logged, es...)
		}
	}
	for i, e := range logged {
		if e.Seq != v.Last+1+i {
			return nil, false
		}
	}
	return logged, true
}

// plainRead gives the version, the name of its manifest and the entries of the
// logs; false if the directory is damaged.
func plainRead(fs impl.FS) (impl.Version, string, []impl.Entry, bool) {
	none := impl.Version{Log: 1, Next: 1}
	for _, f := range fs.Files {
		if strings.HasPrefix(f.Name, "repair.") {
			return none, "", nil, false
		}
	}
	manifest, there := impl.FsFind(fs, "CURRENT")
	if !there {
		for _, f := range fs.Files {
			if isTable(f.Name) || isLog(f.Name) && f.Data != "" {
				return none, "", nil, false
			}
		}
		return none, "", nil, true
	}
	data, there := impl.FsFind(fs, manifest)
	v, _, ok := impl.ReadManifest(data)
	if !isManifest(manifest) || !there || !ok {
		return none, "", nil, false
	}
	if _, fit := plainTables(fs, v.Tables, v.Last); !fit {
		return none, "", nil, false
	}
	logged, ok := plainLogs(fs, v)
	return v, manifest, logged, ok
}

func plainPairs(es []impl.Entry) []impl.Pair {
	pairs := []impl.Pair{}
	for _, e := range es {
		if e.Kind == impl.KindPut {
			pairs = append(pairs, impl.Pair{Key: e.Key, Val: e.Val})
		}
	}
	return pairs
}

func plainPeek(fs impl.FS) ([]impl.Pair, int) {
	if !impl.ValidFS(fs) {
		return nil, impl.RunBad
	}
	v, _, logged, ok := plainRead(fs)
	if !ok {
		return nil, impl.RunDamaged
	}
	lists, _ := plainTables(fs, v.Tables, v.Last)
	return plainPairs(plainNewest(append([][]impl.Entry{logged}, lists...))), impl.RunOk
}

// sweep is part (1), and part (7), of an opening.
func (p *plainStore) sweep(v impl.Version, manifest string) {
	keep := []string{}
	if manifest != "" {
		keep = append(keep, "CURRENT", manifest)
	}
	for _, ref := range v.Tables {
		keep = append(keep, strconv.Itoa(ref.Num)+".sst")
	}
	for _, f := range p.fs.Files {
		isKept := slices.Contains(keep, f.Name) || manifest != "" && isLog(f.Name) && storeNumber(f.Name) >= v.Log
		if isStoreName(f.Name) && !isKept {
			p.do(remove(f.Name))
		}
	}
}

func (p *plainStore) open() {
	v, manifest, logged, ok := plainRead(p.fs)
	if !ok {
		panic(stop{impl.RunDamaged})
	}
	p.sweep(v, manifest)
	next := v.Next
	for _, f := range p.fs.Files {
		next = max(next, storeNumber(f.Name)+1)
	}
	if next+3 > 999999999 {
		panic(stop{impl.RunFull})
	}
	e := impl.Edit{Adds: slices.Clone(v.Tables), Last: v.Last}
	if len(logged) > 0 {
		e.Adds = append(e.Adds, p.makeTable(next, 0, plainNewest([][]impl.Entry{logged})))
		e.Last = logged[len(logged)-1].Seq
		next++
	}
	p.make(strconv.Itoa(next) + ".log")
	e.Log = next
	e.Next = next + 2
	newManifest := "MANIFEST-" + strconv.Itoa(next+1)
	p.makeWith(newManifest, editFrame(e))
	p.makeWith("CURRENT.tmp", newManifest)
	p.do(rename("CURRENT.tmp", "CURRENT"))
	p.made = nil
	p.version, _ = plainApply(impl.Version{}, e)
	p.manifest, p.last, p.mem = newManifest, e.Last, nil
	p.sweep(p.version, newManifest)
	p.mode = impl.ModeOpen
}

func (p *plainStore) makeTable(num int, level int, es []impl.Entry) impl.TableRef {
	p.makeWith(strconv.Itoa(num)+".sst", sst(es...))
	return table(num, level, es[0].Key, es[len(es)-1].Key)
}

func (p *plainStore) log() string {
	return strconv.Itoa(p.version.Log) + ".log"
}

func (p *plainStore) write(es ...impl.Entry) {
	es = slices.Clone(es)
	for i := range es {
		es[i].Seq = p.last + 1 + i
	}
	payload := entriesText(es)
	if p.last+len(es) > impl.MaxSeq || len(payload) > impl.MaxPayload {
		panic(stop{impl.RunBad})
	}
	p.do(appendTo(p.log(), batch(payload)))
	p.last += len(es)
	p.mem = plainNewest([][]impl.Entry{es, p.mem})
}

func (p *plainStore) newest() []impl.Entry {
	lists, ok := plainTables(p.fs, p.version.Tables, p.version.Last)
	if !ok {
		panic(stop{impl.RunDamaged})
	}
	return plainNewest(append([][]impl.Entry{p.mem}, lists...))
}

func (p *plainStore) get(key string) impl.Answer {
	for _, e := range p.newest() {
		if e.Key == key && e.Kind == impl.KindPut {
			return impl.Answer{Val: e.Val}
		}
	}
	return impl.Answer{Code: impl.RunNone}
}

func (p *plainStore) scan(lo string, hi string) impl.Answer {
	pairs := []impl.Pair{}
	for _, pair := range plainPairs(p.newest()) {
		if pair.Key >= lo && (hi == "" || pair.Key < hi) {
			pairs = append(pairs, pair)
		}
	}
	return impl.Answer{Pairs: pairs}
}

// edit appends to the manifest; from there on what was made is in use.
func (p *plainStore) edit(e impl.Edit) {
	p.do(appendTo(p.manifest, editFrame(e)))
	p.made = nil
	p.version, _ = plainApply(p.version, e)
}

func (p *plainStore) flush() {
	if len(p.mem) == 0 {
		return
	}
	next, log := p.version.Next, p.log()
	if next+3 > 999999999 {
		panic(stop{impl.RunFull})
	}
	p.do(syncFile(log))
	ref := p.makeTable(next, 0, p.mem)
	p.make(strconv.Itoa(next+1) + ".log")
	p.edit(impl.Edit{Adds: []impl.TableRef{ref}, Log: next + 1, Next: next + 2, Last: p.last})
	p.mem = nil
	p.do(syncFile(p.manifest))
	p.do(remove(log))
}

func (p *plainStore) compact(level int) {
	v := p.version
	inputs, dels := []impl.TableRef{}, []int{}
	for _, ref := range v.Tables {
		if ref.Level == level || ref.Level == level+1 {
			inputs = append(inputs, ref)
			dels = append(dels, ref.Num)
		}
	}
	lists, ok := plainTables(p.fs, inputs, v.Last)
	if !ok {
		panic(stop{impl.RunDamaged})
	}
	if !slices.ContainsFunc(v.Tables, func(ref impl.TableRef) bool { return ref.Level == level }) {
		return
	}
	if v.Next+3 > 999999999 {
		panic(stop{impl.RunFull})
	}
	es := plainNewest(lists)
	ref := p.makeTable(v.Next, level+1, es)
	p.edit(impl.Edit{Adds: []impl.TableRef{ref}, Dels: dels, Log: v.Log, Next: v.Next + 1, Last: v.Last})
	p.do(syncFile(p.manifest))
	for _, num := range dels {
		p.do(remove(strconv.Itoa(num) + ".sst"))
	}
	p.dropDeletions(ref, es)
}

func (p *plainStore) dropDeletions(ref impl.TableRef, es []impl.Entry) {
	v := p.version
	puts := slices.DeleteFunc(slices.Clone(es), func(e impl.Entry) bool { return e.Kind == impl.KindDelete })
	deeper := slices.ContainsFunc(v.Tables, func(r impl.TableRef) bool { return r.Level > ref.Level })
	if len(puts) == len(es) || deeper {
		return
	}
	e := impl.Edit{Dels: []int{ref.Num}, Log: v.Log, Next: v.Next, Last: v.Last}
	if len(puts) > 0 {
		e.Adds = []impl.TableRef{p.makeTable(v.Next, ref.Level, puts)}
		e.Next++
	}
	p.edit(e)
	p.do(syncFile(p.manifest))
	p.do(remove(strconv.Itoa(ref.Num) + ".sst"))
}

func (p *plainStore) poke(name string, at int, val string) {
	f := fileOf(p.fs, name)
	switch {
	case f.Name == "":
		panic(stop{impl.RunNone})
	case at < 0 || at > len(f.Data) || len(f.Data)-at < len(val):
		panic(stop{impl.RunBad})
	}
	p.fs = copyFS(p.fs)
	for i := range p.fs.Files {
		if p.fs.Files[i].Name == name {
			p.fs.Files[i].Data = f.Data[:at] + val + f.Data[at+len(val):]
		}
	}
}

func plainList(fs impl.FS) string {
	s := ""
	for _, f := range fs.Files {
		s += f.Name + " " + strconv.Itoa(len(f.Data)) + " " + strconv.Itoa(f.Synced) + "\n"
	}
	return s
}

// named is what may stand in each field of an operation: a function a field.
type named struct {
	key, val func(string) bool
	n        func(int) bool
	batch    func([]impl.Entry) bool
	keep     func([]int) bool
}

func noText(s string) bool { return s == "" }

func textOf(least int, most int) func(string) bool {
	return func(s string) bool { return len(s) >= least && len(s) <= most }
}

func goodBatch(es []impl.Entry) bool {
	if len(es) < 1 || len(es) > 1000 {
		return false
	}
	for _, e := range es {
		good := e.Seq == 0 && len(e.Key) >= 1 && len(e.Key) <= 1000 && len(e.Val) <= 4000
		if !good || e.Kind != 1 && (e.Kind != 0 || e.Val != "") {
			return false
		}
	}
	return true
}

func rulesOf(kind int) named {
	r := named{key: noText, val: noText}
	r.n = func(n int) bool { return n == 0 }
	r.batch = func(es []impl.Entry) bool { return len(es) == 0 }
	r.keep = func(keep []int) bool { return len(keep) == 0 }
	key := textOf(1, 1000)
	switch kind {
	case impl.OpPut:
		r.key, r.val = key, textOf(0, 4000)
	case impl.OpDel, impl.OpGet:
		r.key = key
	case impl.OpBatch:
		r.batch = goodBatch
	case impl.OpScan:
		r.key, r.val = textOf(0, 1000), textOf(0, 1000)
	case impl.OpCompact:
		r.n = func(n int) bool { return n >= 0 && n <= 2 }
	case impl.OpCrash:
		r.keep = func(keep []int) bool { return len(keep) <= 200 }
	case impl.OpFuel:
		r.n = func(n int) bool { return n >= -1 }
	case impl.OpPoke:
		r.key, r.val = textOf(0, maxInt), textOf(0, maxInt)
		r.n = func(int) bool { return true }
	}
	return r
}

func plainGood(op impl.Op) bool {
	r := rulesOf(op.Kind)
	return op.Kind >= 1 && op.Kind <= 17 && r.key(op.Key) && r.val(op.Val) && r.n(op.N) && r.batch(op.Batch) && r.keep(op.Keep)
}

func neededMode(kind int) (int, bool) {
	switch kind {
	case impl.OpOpen, impl.OpCheck, impl.OpRepair:
		return impl.ModeClosed, true
	case impl.OpCrash, impl.OpFuel, impl.OpPoke, impl.OpDump, impl.OpList:
		return 0, false
	}
	return impl.ModeOpen, true
}

func (p *plainStore) perform(op impl.Op) (a impl.Answer) {
	switch op.Kind {
	case impl.OpOpen:
		p.open()
	case impl.OpPut:
		p.write(impl.Entry{Key: op.Key, Kind: 1, Val: op.Val})
	case impl.OpDel:
		p.write(impl.Entry{Key: op.Key})
	case impl.OpBatch:
		p.write(op.Batch...)
	case impl.OpSync:
		p.do(syncFile(p.log()))
	case impl.OpGet:
		a = p.get(op.Key)
	case impl.OpScan:
		a = p.scan(op.Key, op.Val)
	case impl.OpFlush:
		p.flush()
	case impl.OpCompact:
		p.compact(op.N)
	case impl.OpClose:
		p.do(syncFile(p.log()))
		p.mode = impl.ModeClosed
	case impl.OpCrash:
		p.fs, p.mode = impl.FsCrash(p.fs, op.Keep), impl.ModeClosed
	case impl.OpFuel:
		p.fs = withFuel(p.fs, op.N)
	case impl.OpPoke:
		p.poke(op.Key, op.N, op.Val)
	case impl.OpCheck:
		a.Val = strconv.Itoa(plainCheck(p.fs))
	case impl.OpRepair:
		p.fs, a.Code = plainRepair(p.fs)
	case impl.OpDump:
		a.Val = impl.Dump(p.fs)
	case impl.OpList:
		a.Val = plainList(p.fs)
	}
	return a
}

// giveUp takes out what was made, as long as the process lives.
func (p *plainStore) giveUp() (code int) {
	defer func() {
		if r := recover(); r != nil {
			code = r.(stop).code
		}
	}()
	for _, name := range p.made {
		p.do(remove(name))
	}
	return impl.RunFull
}

func (p *plainStore) attempt(op impl.Op) (a impl.Answer) {
	p.made = nil
	defer func() {
		r := recover()
		s, stopped := r.(stop)
		switch {
		case stopped && s.code == impl.RunFull:
			a = impl.Answer{Code: p.giveUp()}
		case stopped:
			a = impl.Answer{Code: s.code}
		case r != nil:
			panic(r)
		}
	}()
	return p.perform(op)
}

func (p *plainStore) answer(op impl.Op) impl.Answer {
	mode, needs := neededMode(op.Kind)
	switch {
	case p.mode == impl.ModeDead && !(op.Kind == impl.OpCrash && plainGood(op)):
		return impl.Answer{Code: impl.RunDead}
	case !plainGood(op):
		return impl.Answer{Code: impl.RunBad}
	case needs && mode != p.mode:
		return impl.Answer{Code: impl.RunState}
	}
	a := p.attempt(op)
	if a.Code == impl.RunDead {
		p.mode = impl.ModeDead
	}
	return a
}

func plainExec(fs impl.FS, list []impl.Op) impl.Outcome {
	if !impl.ValidFS(fs) || len(list) > 2000 {
		return impl.Outcome{}
	}
	p := &plainStore{fs: fs}
	o := impl.Outcome{}
	for _, op := range list {
		o.Answers = append(o.Answers, p.answer(op))
	}
	o.Fs, o.Mode = p.fs, p.mode
	return o
}
