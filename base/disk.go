package base

import (
	"cmp"
	"maps"
	"slices"
	"strings"

	"cloak/api"
)

const (
	fileCount  = 16
	sectorSize = 64
	maxFile    = 1 << 24
)

// place is a sector: its file and its number.
type place struct{ file, number int }

// sector is the content of a sector. The bytes after the end of the file are 0.
type sector [sectorSize]byte

// image is the content of all files. A sector that is missing consists of bytes 0.
type image struct {
	sectors map[place]sector
	sizes   [fileCount]int
}

func (m image) clone() image {
	return image{sectors: maps.Clone(m.sectors), sizes: m.sizes}
}

// read returns the bytes of the file f from the offset at up to the offset end.
func (m image) read(f, at, end int) string {
	var b strings.Builder
	for at < end {
		s := m.sectors[place{f, at / sectorSize}]
		from := at % sectorSize
		to := min(sectorSize, from+end-at)
		b.Write(s[from:to])
		at += to - from
	}
	return b.String()
}

// put puts bytes into the file f at the offset at.
func (m *image) put(f, at int, s string) {
	m.sizes[f] = max(m.sizes[f], at+len(s))
	for s != "" {
		p := place{f, at / sectorSize}
		c := m.sectors[p]
		n := copy(c[at%sectorSize:], s)
		m.sectors[p] = c
		s = s[n:]
		at += n
	}
}

// cut shortens the file f to size bytes.
func (m *image) cut(f, size int) {
	for n := size / sectorSize; n*sectorSize < m.sizes[f]; n++ {
		p := place{f, n}
		c, ok := m.sectors[p]
		switch keep := size - n*sectorSize; {
		case keep <= 0:
			delete(m.sectors, p)
		case ok:
			clear(c[keep:])
			m.sectors[p] = c
		}
	}
	m.sizes[f] = size
}

// Disk is a simulated machine with files.
//
// Where a file and its durable part differ, either the sector is pending, or the bytes of the file are 0 and the durable part has ended: so only pending sectors are copied from one to the other.
type Disk struct {
	files, durable image
	pending        [fileCount]map[int]int // by file: the number of each pending sector, with its rank in the list
	rank           int                    // greater than all ranks in pending
	down           bool
	lost           int   // lost syncs that are due
	calls          int   // calls up to the scheduled crash; 0 if none is scheduled
	keep           []int // of the scheduled crash
}

// NewDisk returns a disk with empty files.
func NewDisk() *Disk {
	d := &Disk{
		files:   image{sectors: map[place]sector{}},
		durable: image{sectors: map[place]sector{}},
	}
	d.forget()
	return d
}

// forget makes all sectors no longer pending.
func (d *Disk) forget() {
	for f := range d.pending {
		d.pending[f] = map[int]int{}
	}
}

// check returns the errors that all calls have in common.
func (d *Disk) check(f int) api.Errno {
	switch {
	case d.down:
		return api.ErrDown
	case f < 0 || f >= fileCount:
		return api.ErrArg
	}
	return api.OK
}

// Read returns bytes of a file.
func (d *Disk) Read(f, at, size int) (string, api.Errno) {
	if e := d.check(f); e != api.OK {
		return "", e
	}
	if at < 0 || size < 0 {
		return "", api.ErrArg
	}
	end := d.files.sizes[f]
	if at >= end {
		return "", api.OK
	}
	return d.files.read(f, at, at+min(size, end-at)), api.OK
}

// Write writes bytes to a file.
func (d *Disk) Write(f, at int, s string) api.Errno {
	e := d.check(f)
	if e == api.OK {
		e = d.write(f, at, s)
	}
	return d.finish(e)
}

func (d *Disk) write(f, at int, s string) api.Errno {
	switch {
	case at < 0:
		return api.ErrArg
	case at > maxFile-len(s):
		return api.ErrFull
	case s == "":
		return api.OK
	}
	d.files.put(f, at, s)
	for n := at / sectorSize; n*sectorSize < at+len(s); n++ {
		if _, ok := d.pending[f][n]; !ok {
			d.pending[f][n] = d.rank
			d.rank++
		}
	}
	return api.OK
}

// Sync makes a file durable.
func (d *Disk) Sync(f int) api.Errno {
	e := d.check(f)
	if e == api.OK && d.calls != 1 {
		e = d.sync(f)
	}
	return d.finish(e)
}

func (d *Disk) sync(f int) api.Errno {
	if d.lost > 0 {
		d.lost--
		return api.ErrLost
	}
	d.settle(f)
	return api.OK
}

// settle makes a file its durable part.
func (d *Disk) settle(f int) {
	for n := range d.pending[f] {
		d.survive(place{f, n})
	}
	d.durable.sizes[f] = d.files.sizes[f]
	d.pending[f] = map[int]int{}
}

// survive puts a pending sector into the durable part of its file.
func (d *Disk) survive(p place) {
	d.durable.sectors[p] = d.files.sectors[p]
	end := min((p.number+1)*sectorSize, d.files.sizes[p.file])
	d.durable.sizes[p.file] = max(d.durable.sizes[p.file], end)
}

// Truncate removes the end of a file.
func (d *Disk) Truncate(f, size int) api.Errno {
	e := d.check(f)
	if e == api.OK && d.calls != 1 {
		e = d.truncate(f, size)
	}
	return d.finish(e)
}

func (d *Disk) truncate(f, size int) api.Errno {
	if size < 0 || size > d.files.sizes[f] {
		return api.ErrArg
	}
	d.settle(f)
	d.files.cut(f, size)
	d.durable.cut(f, size)
	return api.OK
}

// finish ends a call of Write, Sync or Truncate with the result e: it counts the call, and performs the crash that was scheduled at it.
func (d *Disk) finish(e api.Errno) api.Errno {
	if d.down || d.calls == 0 {
		return e
	}
	d.calls--
	if d.calls > 0 {
		return e
	}
	d.Crash(d.keep)
	return api.ErrDown
}

// Size returns the length of a file.
func (d *Disk) Size(f int) int {
	if f < 0 || f >= fileCount {
		return 0
	}
	return d.files.sizes[f]
}

// Lose makes the next syncs fail.
func (d *Disk) Lose(n int) { d.lost = max(n, 0) }

// Arm schedules a crash.
func (d *Disk) Arm(n int, keep []int) {
	d.calls = max(n, 0)
	d.keep = slices.Clone(keep)
}

// Crash takes the machine down.
func (d *Disk) Crash(keep []int) {
	if d.down {
		return
	}
	d.down = true
	for i, p := range d.pendingList() {
		if len(keep) > 0 && keep[i%len(keep)]%2 != 0 {
			d.survive(p)
		}
	}
	d.files = d.durable.clone()
	d.forget()
	d.Arm(0, nil)
}

// pendingList returns the list of pending sectors.
func (d *Disk) pendingList() []place {
	var l []place
	for f, ranks := range d.pending {
		for n := range ranks {
			l = append(l, place{f, n})
		}
	}
	slices.SortFunc(l, func(a, b place) int {
		return cmp.Compare(d.pending[a.file][a.number], d.pending[b.file][b.number])
	})
	return l
}

// Start brings the machine up.
func (d *Disk) Start() { d.down = false }

// Down reports whether the machine is down.
func (d *Disk) Down() bool { return d.down }

// Copy returns an independent copy of the disk.
func (d *Disk) Copy() *Disk {
	c := *d
	c.files = d.files.clone()
	c.durable = d.durable.clone()
	for f, ranks := range d.pending {
		c.pending[f] = maps.Clone(ranks)
	}
	c.keep = slices.Clone(d.keep)
	return &c
}
