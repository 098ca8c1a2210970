package impl

import (
	"maps"
	"slices"
	"sync"
)

const MaxFiles = 200
const MaxFileName = 120
const MaxTotal = 1048576

const FsOk = 0
const FsNone = 1
const FsBadName = 2
const FsQuota = 3
const FsLimit = 4
const FsDead = 8
const FsInvalid = 9

type File struct {
	Name   string
	Data   string
	Synced int
}

type FS struct {
	Files []File
	Quota int
	Fuel  int
}

// content is what a directory holds under one name.
type content struct {
	data   string
	synced int
}

// directory is the inner form of a valid FS. Several goroutines may look at
// one at a time, so every step and every look holds the lock.
type directory struct {
	lock  sync.RWMutex
	files map[string]content
	quota int
	fuel  int
}

func goodFileName(name string) bool {
	return len(name) >= 1 && len(name) <= MaxFileName
}

// openDirectory gives false for an FS that is not valid: the methods of a
// directory lean on its being valid.
func openDirectory(fs FS) (*directory, bool) {
	if !ValidFS(fs) {
		return nil, false
	}
	d := &directory{files: make(map[string]content, len(fs.Files)), quota: fs.Quota, fuel: fs.Fuel}
	for _, f := range fs.Files {
		d.files[f.Name] = content{data: f.Data, synced: f.Synced}
	}
	return d, true
}

// names expects the lock to be held. It sorts because a map has no order of
// its own and an answer must not hang on one.
func (d *directory) names() []string {
	return slices.Sorted(maps.Keys(d.files))
}

// total expects the lock to be held.
func (d *directory) total() int {
	size := 0
	for _, c := range d.files {
		size += len(c.data)
	}
	return size
}

func (d *directory) plain() FS {
	d.lock.RLock()
	defer d.lock.RUnlock()
	files := make([]File, 0, len(d.files))
	for _, name := range d.names() {
		c := d.files[name]
		files = append(files, File{Name: name, Data: c.data, Synced: c.synced})
	}
	return FS{Files: files, Quota: d.quota, Fuel: d.fuel}
}

func (d *directory) find(name string) (string, bool) {
	d.lock.RLock()
	defer d.lock.RUnlock()
	c, there := d.files[name]
	return c.data, there
}

// begin expects the lock to be held. Every step goes through it first: the
// fuel is spent before the names are looked at, since a refused step is a
// step too.
func (d *directory) begin(names ...string) int {
	if d.fuel == 0 {
		return FsDead
	}
	if d.fuel > 0 {
		d.fuel--
	}
	for _, name := range names {
		if !goodFileName(name) {
			return FsBadName
		}
	}
	return FsOk
}

// beginAt is begin for a step on a file that must be there. The other names
// only have to be good, but a bad one comes before a missing file.
func (d *directory) beginAt(name string, others ...string) (content, int) {
	if code := d.begin(append(others, name)...); code != FsOk {
		return content{}, code
	}
	c, there := d.files[name]
	if !there {
		return content{}, FsNone
	}
	return c, FsOk
}

func (d *directory) create(name string) int {
	d.lock.Lock()
	defer d.lock.Unlock()
	if code := d.begin(name); code != FsOk {
		return code
	}
	if _, there := d.files[name]; !there && len(d.files) >= MaxFiles {
		return FsLimit
	}
	d.files[name] = content{}
	return FsOk
}

func (d *directory) append(name string, data string) int {
	d.lock.Lock()
	defer d.lock.Unlock()
	c, code := d.beginAt(name)
	if code != FsOk {
		return code
	}
	grown := d.total() + len(data)
	if grown > MaxTotal {
		return FsLimit
	}
	// A directory may hold more than its quota; adding nothing to it is no growth.
	if data != "" && grown > d.quota {
		return FsQuota
	}
	d.files[name] = content{data: c.data + data, synced: c.synced}
	return FsOk
}

func (d *directory) sync(name string) int {
	d.lock.Lock()
	defer d.lock.Unlock()
	c, code := d.beginAt(name)
	if code != FsOk {
		return code
	}
	d.files[name] = content{data: c.data, synced: len(c.data)}
	return FsOk
}

func (d *directory) rename(from string, to string) int {
	d.lock.Lock()
	defer d.lock.Unlock()
	c, code := d.beginAt(from, to)
	if code != FsOk {
		return code
	}
	// Taking out first makes a renaming onto itself come out right.
	delete(d.files, from)
	d.files[to] = c
	return FsOk
}

func (d *directory) remove(name string) int {
	d.lock.Lock()
	defer d.lock.Unlock()
	if _, code := d.beginAt(name); code != FsOk {
		return code
	}
	delete(d.files, name)
	return FsOk
}

// crash is no step: it costs no fuel, and a dead process has it too.
func (d *directory) crash(keep []int) {
	d.lock.Lock()
	defer d.lock.Unlock()
	for i, name := range d.names() {
		c := d.files[name]
		size := c.synced + keptBytes(keep, i, len(c.data)-c.synced)
		d.files[name] = content{data: c.data[:size], synced: size}
	}
	d.fuel = -1
}

// overwrite is no step: bytes go bad behind the process. The data must be of
// the size that was there, since what is synced stays.
func (d *directory) overwrite(name string, data string) {
	d.lock.Lock()
	defer d.lock.Unlock()
	d.files[name] = content{data: data, synced: d.files[name].synced}
}

// refuel is no step either.
func (d *directory) refuel(fuel int) {
	d.lock.Lock()
	defer d.lock.Unlock()
	d.fuel = fuel
}

// keptBytes cuts keep[i] down to 0..most ahead of any sum with it, since it
// may be any number.
func keptBytes(keep []int, i int, most int) int {
	if i >= len(keep) {
		return 0
	}
	return max(0, min(keep[i], most))
}

// takeStep is what the faces of the five steps share.
func takeStep(fs FS, step func(d *directory) int) (FS, int) {
	d, ok := openDirectory(fs)
	if !ok {
		return FS{}, FsInvalid
	}
	code := step(d)
	return d.plain(), code
}

func ValidFS(fs FS) bool {
	if len(fs.Files) > MaxFiles || fs.Quota < 0 || fs.Quota > MaxTotal || fs.Fuel < -1 {
		return false
	}
	total := 0
	before := "" // less than every good name
	for _, f := range fs.Files {
		if !goodFileName(f.Name) || f.Name <= before {
			return false
		}
		if f.Synced < 0 || f.Synced > len(f.Data) {
			return false
		}
		total += len(f.Data)
		before = f.Name
	}
	return total <= MaxTotal
}

func FsFind(fs FS, name string) (string, bool) {
	d, ok := openDirectory(fs)
	if !ok {
		return "", false
	}
	return d.find(name)
}

func FsCreate(fs FS, name string) (FS, int) {
	return takeStep(fs, func(d *directory) int { return d.create(name) })
}

func FsAppend(fs FS, name string, data string) (FS, int) {
	return takeStep(fs, func(d *directory) int { return d.append(name, data) })
}

func FsSync(fs FS, name string) (FS, int) {
	return takeStep(fs, func(d *directory) int { return d.sync(name) })
}

func FsRename(fs FS, from string, to string) (FS, int) {
	return takeStep(fs, func(d *directory) int { return d.rename(from, to) })
}

func FsRemove(fs FS, name string) (FS, int) {
	return takeStep(fs, func(d *directory) int { return d.remove(name) })
}

func FsCrash(fs FS, keep []int) FS {
	d, ok := openDirectory(fs)
	if !ok {
		return FS{}
	}
	d.crash(keep)
	return d.plain()
}
