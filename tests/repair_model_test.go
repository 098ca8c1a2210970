package tests

import (
	"encoding/binary"
	"strconv"
	"strings"

	"loop.example/s01733/impl"
)

func ofRepairer(name string) bool {
	return strings.HasPrefix(name, "repair.")
}

func inArchive(name string) bool {
	return strings.HasPrefix(name, "lost/")
}

// markOf is a mark told once more from the document.
func markOf(n int) string {
	return impl.Frame(impl.FrameMark, varint(n))
}

// plainMark gives the number of a mark and the entries beside it; false if it is
// not a good one.
func plainMark(fs impl.FS, name string) (int, []impl.Entry, bool) {
	data := fileOf(fs, name).Data
	n, _ := binary.Uvarint([]byte(impl.ReadFrame(data, 0).Payload))
	es, isTable := impl.ReadTable(fileOf(fs, "repair.tab").Data)
	isMark := n <= impl.MaxSeq && data == markOf(int(n))
	return int(n), es, isMark && isTable
}

// plainView is View told once more.
func plainView(fs impl.FS) impl.Salvaged {
	if !impl.ValidFS(fs) {
		return impl.Salvaged{}
	}
	if n, es, good := plainMark(fs, "repair.go"); good {
		return impl.Salvaged{Entries: es, Last: n}
	}
	if n, es, good := plainMark(fs, "repair.ok"); good {
		return impl.Salvaged{Entries: es, Last: n}
	}
	v := impl.Salvaged{}
	lists := [][]impl.Entry{}
	for _, f := range fs.Files {
		if ofRepairer(f.Name) || inArchive(f.Name) {
			continue
		}
		found := append(impl.Salvage(f.Data, impl.FrameBlock), impl.Salvage(f.Data, impl.FrameBatch)...)
		for _, payload := range found {
			es, _ := impl.DecodeEntries(payload)
			lists = append(lists, es)
			for _, e := range es {
				v.Last = max(v.Last, e.Seq)
			}
		}
	}
	v.Entries = plainNewest(lists)
	return v
}

// plainCheckLog is the paragraph on CheckLog.
func plainCheckLog(fs impl.FS, v impl.Version) bool {
	f := fileOf(fs, strconv.Itoa(v.Log)+".log")
	payloads, pages := impl.ReadLog(f.Data, impl.FrameBatch)
	ok := f.Name != "" && pages*64 == len(f.Data)
	seq := v.Last
	for _, payload := range payloads {
		es, decoded := impl.DecodeEntries(payload)
		ok = ok && decoded && len(es) > 0
		for _, e := range es {
			seq++
			ok = ok && e.Seq == seq
		}
	}
	return ok
}

// plainCheck is Check told once more.
func plainCheck(fs impl.FS) int {
	if !impl.ValidFS(fs) {
		return impl.CheckInvalid
	}
	for _, f := range fs.Files {
		if ofRepairer(f.Name) {
			return impl.CheckRepair
		}
	}
	name := fileOf(fs, "CURRENT").Data
	manifest := fileOf(fs, name)
	if !isManifest(name) || manifest.Name == "" {
		return impl.CheckCurrent
	}
	v, pages, ok := impl.ReadManifest(manifest.Data)
	if !ok || pages*64 != len(manifest.Data) {
		return impl.CheckManifest
	}
	if _, fit := plainTables(fs, v.Tables, v.Last); !fit {
		return impl.CheckTable
	}
	if !plainCheckLog(fs, v) {
		return impl.CheckLog
	}
	used := " CURRENT " + name + " " + strconv.Itoa(v.Log) + ".log "
	for _, ref := range v.Tables {
		used += strconv.Itoa(ref.Num) + ".sst "
	}
	for _, f := range fs.Files {
		if isStoreName(f.Name) && !strings.Contains(used, " "+f.Name+" ") {
			return impl.CheckStray
		}
	}
	return impl.CheckOk
}

// save is the first stage. Its made files are taken out where there is no room.
func (p *plainStore) save() {
	v := plainView(p.fs)
	for _, f := range p.fs.Files {
		if ofRepairer(f.Name) {
			p.do(remove(f.Name))
		}
	}
	for _, f := range p.fs.Files {
		if f.Synced != len(f.Data) {
			p.do(syncFile(f.Name))
		}
	}
	puts := []impl.Entry{}
	for _, e := range v.Entries {
		if e.Kind == impl.KindPut {
			puts = append(puts, e)
		}
	}
	p.makeWith("repair.tab", sst(puts...))
	p.makeWith("repair.tmp", markOf(v.Last))
	p.do(rename("repair.tmp", "repair.ok"))
	p.made = nil
}

func archiveNameOf(fs impl.FS, name string) string {
	to := "lost/" + name
	for n := 1; fileOf(fs, to).Name != ""; n++ {
		to = "lost/" + name + "." + strconv.Itoa(n)
	}
	return to
}

// toArchive is the second stage.
func (p *plainStore) toArchive() {
	for _, f := range p.fs.Files {
		if !ofRepairer(f.Name) && !inArchive(f.Name) {
			p.do(rename(f.Name, archiveNameOf(p.fs, f.Name)))
		}
	}
	p.do(rename("repair.ok", "repair.go"))
}

// rebuild is the third stage. What it makes stays.
func (p *plainStore) rebuild() {
	n, es, _ := plainMark(p.fs, "repair.go")
	e := impl.Edit{Log: 2, Next: 4, Last: n}
	if len(es) > 0 {
		p.do(create("1.sst"))
		p.do(appendTo("1.sst", fileOf(p.fs, "repair.tab").Data))
		p.do(syncFile("1.sst"))
		e.Adds = []impl.TableRef{table(1, 1, es[0].Key, es[len(es)-1].Key)}
	}
	p.do(create("2.log"))
	p.do(create("MANIFEST-3"))
	p.do(appendTo("MANIFEST-3", editFrame(e)))
	p.do(syncFile("MANIFEST-3"))
	p.do(create("CURRENT.tmp"))
	p.do(appendTo("CURRENT.tmp", "MANIFEST-3"))
	p.do(syncFile("CURRENT.tmp"))
	p.do(rename("CURRENT.tmp", "CURRENT"))
	p.do(remove("repair.go"))
	p.do(remove("repair.tab"))
}

// mend goes through the stages from one on, the first being 1.
func (p *plainStore) mend(from int) (code int) {
	defer func() {
		r := recover()
		s, stopped := r.(stop)
		switch {
		case stopped && s.code == impl.RunFull:
			code = p.giveUp()
		case stopped:
			code = s.code
		case r != nil:
			panic(r)
		}
	}()
	if from <= 1 {
		p.save()
	}
	if from <= 2 {
		p.toArchive()
	}
	p.rebuild()
	return impl.RunOk
}

func firstStageOf(fs impl.FS) int {
	if _, _, good := plainMark(fs, "repair.go"); good {
		return 3
	}
	if _, _, good := plainMark(fs, "repair.ok"); good {
		return 2
	}
	return 1
}

// plainRepair is Repair told once more.
func plainRepair(fs impl.FS) (impl.FS, int) {
	if !impl.ValidFS(fs) {
		return impl.FS{}, impl.RunBad
	}
	from := firstStageOf(fs)
	for _, f := range fs.Files {
		if from < 3 && len(f.Name) > 100 && !ofRepairer(f.Name) && !inArchive(f.Name) {
			return fs, impl.RunBad
		}
	}
	p := &plainStore{fs: fs}
	code := p.mend(from)
	return p.fs, code
}
