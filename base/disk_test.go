package base_test

import (
	"math"
	"math/rand/v2"
	"slices"
	"strings"
	"testing"

	"cloak/api"
	"cloak/base"
)

const (
	fileCount  = 16
	sectorSize = 64
	maxFile    = 1 << 24
)

// mustWrite writes, and stops the test if this is refused.
func mustWrite(t *testing.T, d *base.Disk, f, at int, s string) {
	t.Helper()
	if e := d.Write(f, at, s); e != api.OK {
		t.Fatal("Write", f, at, e)
	}
}

// content returns all bytes of a file.
func content(t *testing.T, d *base.Disk, f int) string {
	t.Helper()
	s, e := d.Read(f, 0, math.MaxInt)
	if e != api.OK {
		t.Fatal("Read", f, e)
	}
	return s
}

// durable returns what a file is after a crash in which no sector survives.
func durable(t *testing.T, d *base.Disk, f int) string {
	t.Helper()
	c := d.Copy()
	c.Crash(nil)
	c.Start()
	return content(t, c, f)
}

// P1.3
func TestNewDisk(t *testing.T) {
	d := base.NewDisk()
	if d.Down() {
		t.Error("a new disk is down")
	}
	for f := range fileCount {
		if d.Size(f) != 0 || content(t, d, f) != "" {
			t.Error("a new file is not empty", f)
		}
	}
	d.Crash([]int{1})
	d.Start()
	if d.Size(0) != 0 {
		t.Error("a sector of a new disk is pending")
	}
}

// P1.3
func TestSizeAndDown(t *testing.T) {
	d := base.NewDisk()
	mustWrite(t, d, 15, 100, "ab")
	d.Sync(15)
	for range 2 {
		if d.Size(15) != 102 || d.Size(14) != 0 || d.Size(16) != 0 || d.Size(-1) != 0 || d.Size(math.MinInt) != 0 {
			t.Error("sizes, down", d.Down())
		}
		d.Crash(nil)
		if !d.Down() {
			t.Error("up after a crash")
		}
	}
	d.Start()
	d.Start()
	if d.Down() {
		t.Error("down after a start")
	}
}

// P1.3
func TestCopy(t *testing.T) {
	d := base.NewDisk()
	mustWrite(t, d, 0, 0, "durable")
	d.Sync(0)
	mustWrite(t, d, 0, 0, "D")
	mustWrite(t, d, 1, 0, "x")
	d.Lose(1)
	d.Arm(3, []int{0, 1})
	c := d.Copy()
	for i, x := range []*base.Disk{c, d} {
		mustWrite(t, x, 0, 1, "U")
		if e := x.Sync(0); e != api.ErrLost {
			t.Error(i, "lost syncs", e)
		}
		if e := x.Sync(0); e != api.ErrDown {
			t.Error(i, "schedule", e)
		}
		if i == 0 && d.Down() {
			t.Error("a crash of the copy takes the original down")
		}
		x.Start()
		if content(t, x, 0) != "durable" || content(t, x, 1) != "x" {
			t.Errorf("%d: %q %q", i, content(t, x, 0), content(t, x, 1))
		}
	}
	d.Crash(nil)
	if c := d.Copy(); !c.Down() {
		t.Error("the copy of a disk that is down is up")
	}
}

// P1.4: the order of the errors.
func TestDiskErrors(t *testing.T) {
	d := base.NewDisk()
	mustWrite(t, d, 0, 0, "abc")
	read := func(f, at, size int) api.Errno {
		s, e := d.Read(f, at, size)
		if s != "" {
			t.Error("bytes with an error")
		}
		return e
	}
	calls := func(f int) []api.Errno {
		return []api.Errno{read(f, -1, 0), read(f, 0, -1), read(f, math.MinInt, math.MinInt),
			d.Write(f, -1, ""), d.Write(f, math.MinInt, "a"), d.Write(f, -1, strings.Repeat("a", maxFile+1)),
			d.Truncate(f, -1), d.Truncate(f, 4), d.Truncate(f, math.MaxInt)}
	}
	for _, f := range []int{0, -1, 16, math.MaxInt, math.MinInt} {
		for i, e := range calls(f) {
			if e != api.ErrArg {
				t.Error(f, i, e)
			}
		}
	}
	for i, e := range []api.Errno{read(16, 0, 0), d.Write(-1, maxFile, "a"), d.Sync(16), d.Sync(-1), d.Truncate(16, 0)} {
		if e != api.ErrArg {
			t.Error(i, e)
		}
	}
	d.Lose(1)
	if e := d.Sync(16); e != api.ErrArg {
		t.Error("the file number is checked first", e)
	}
	if e := d.Sync(0); e != api.ErrLost {
		t.Error("an error used up a lost sync", e)
	}
	d.Crash([]int{1})
	for _, f := range []int{0, 16} {
		for i, e := range append(calls(f), d.Sync(f)) {
			if e != api.ErrDown {
				t.Error(f, i, e)
			}
		}
	}
	d.Start()
	if content(t, d, 0) != "abc" {
		t.Error("a call that failed changed the file")
	}
}

// P1.4
func TestRead(t *testing.T) {
	d := base.NewDisk()
	long := strings.Repeat("0123456789", 30)
	mustWrite(t, d, 3, 0, long)
	for at := 0; at < len(long)+3; at++ {
		for size := 0; size < 150; size++ {
			from, to := min(at, len(long)), min(at+size, len(long))
			if s, e := d.Read(3, at, size); s != long[from:to] || e != api.OK {
				t.Fatalf("Read %d %d: %q %v", at, size, s, e)
			}
		}
	}
	for _, at := range []int{299, 300, math.MaxInt} {
		if s, e := d.Read(3, at, math.MaxInt); s != long[min(at, 300):] || e != api.OK {
			t.Errorf("Read %d: %q %v", at, s, e)
		}
	}
}

// P1.4
func TestWriteLimits(t *testing.T) {
	d := base.NewDisk()
	for _, c := range []struct {
		at, size int
		want     api.Errno
	}{
		{maxFile, 1, api.ErrFull},
		{maxFile + 1, 0, api.ErrFull},
		{maxFile - 1, 2, api.ErrFull},
		{math.MaxInt, 1, api.ErrFull},
		{math.MaxInt, 0, api.ErrFull},
		{0, maxFile + 1, api.ErrFull},
		{maxFile, 0, api.OK},
	} {
		if e := d.Write(0, c.at, strings.Repeat("a", c.size)); e != c.want || d.Size(0) != 0 {
			t.Error(c.at, c.size, e, d.Size(0))
		}
	}
	mustWrite(t, d, 0, maxFile-1, "z")
	mustWrite(t, d, 1, 0, strings.Repeat("a", maxFile))
	if s := content(t, d, 0); len(s) != maxFile || s != strings.Repeat("\x00", maxFile-1)+"z" {
		t.Error("a file of the greatest size", len(s))
	}
	if d.Size(1) != maxFile || content(t, d, 1) != strings.Repeat("a", maxFile) {
		t.Error("a write of the greatest size")
	}
	if d.Sync(0) != api.OK || d.Truncate(0, 0) != api.OK || d.Size(0) != 0 {
		t.Error("truncate")
	}
}

// P1.4: an empty write makes nothing pending; zeros before a write are pending only in its first sector.
func TestPendingOfWrites(t *testing.T) {
	d := base.NewDisk()
	mustWrite(t, d, 0, 10, "")
	mustWrite(t, d, 1, 0, "x")
	mustWrite(t, d, 0, 200, "y")
	c := d.Copy()
	c.Crash([]int{1, 0})
	c.Start()
	if content(t, c, 1) != "x" || c.Size(0) != 0 {
		t.Error("the first pending sector is not that of the first bytes")
	}
	d.Crash([]int{0, 1, 0})
	d.Start()
	if content(t, d, 0) != strings.Repeat("\x00", 200)+"y" || d.Size(1) != 0 {
		t.Error("the second pending sector is not the last one")
	}
}

// P1.4
func TestSyncAndTruncate(t *testing.T) {
	d := base.NewDisk()
	mustWrite(t, d, 0, 0, strings.Repeat("a", 100))
	mustWrite(t, d, 1, 0, "other")
	d.Lose(2)
	if d.Sync(0) != api.ErrLost || d.Sync(1) != api.ErrLost || durable(t, d, 0) != "" {
		t.Error("a lost sync")
	}
	if d.Sync(0) != api.OK || durable(t, d, 0) != strings.Repeat("a", 100) || durable(t, d, 1) != "" {
		t.Error("a sync makes one file durable")
	}
	mustWrite(t, d, 0, 300, "b")
	if d.Sync(0) != api.OK || durable(t, d, 0) != strings.Repeat("a", 100)+strings.Repeat("\x00", 200)+"b" {
		t.Error("a sync of a file with zeros")
	}
	mustWrite(t, d, 0, 0, "AAA")
	mustWrite(t, d, 0, 70, "BBB")
	want := "AAA" + strings.Repeat("a", 67) + "BB"
	d.Lose(1)
	if d.Truncate(0, 72) != api.OK || content(t, d, 0) != want || durable(t, d, 0) != want {
		t.Error("truncate makes the first bytes durable")
	}
	if d.Sync(1) != api.ErrLost {
		t.Error("truncate used up a lost sync")
	}
	mustWrite(t, d, 0, 80, "c")
	if content(t, d, 0) != want+strings.Repeat("\x00", 8)+"c" {
		t.Error("bytes that were cut off are back")
	}
	if d.Truncate(0, 81) != api.OK || durable(t, d, 0) != want+strings.Repeat("\x00", 8)+"c" || d.Truncate(0, 0) != api.OK || d.Size(0) != 0 {
		t.Error("truncate to the size, and to 0")
	}
	d.Crash([]int{1})
	d.Start()
	if d.Size(0) != 0 || content(t, d, 1) != "other" {
		t.Error("truncate leaves no pending sector, and those of other files")
	}
}

// P1.5
func TestLose(t *testing.T) {
	d := base.NewDisk()
	d.Lose(5)
	d.Lose(1)
	if d.Sync(0) != api.ErrLost || d.Sync(0) != api.OK {
		t.Error("Lose sets the number")
	}
	for _, n := range []int{0, -1, math.MinInt} {
		d.Lose(1)
		d.Lose(n)
		if d.Sync(0) != api.OK {
			t.Error("Lose", n)
		}
	}
	d.Lose(math.MaxInt)
	d.Crash(nil)
	d.Start()
	if d.Sync(0) != api.ErrLost {
		t.Error("a crash is no reason that syncs are not lost")
	}
}

// P1.5: the examples, and which sectors survive.
func TestCrash(t *testing.T) {
	for _, c := range []struct {
		keep []int
		want string
	}{{[]int{1}, "aXY"}, {[]int{0}, "abc"}, {nil, "abc"}, {[]int{-1}, "aXY"}, {[]int{math.MinInt}, "abc"}, {[]int{math.MinInt + 1}, "aXY"}, {[]int{3, 0}, "aXY"}, {[]int{0, 1}, "abc"}} {
		d := base.NewDisk()
		mustWrite(t, d, 0, 0, "abc")
		d.Sync(0)
		mustWrite(t, d, 0, 1, "XY")
		d.Crash(c.keep)
		d.Start()
		if s := content(t, d, 0); s != c.want {
			t.Errorf("%v: %q", c.keep, s)
		}
		d.Crash([]int{1})
		d.Start()
		if s := content(t, d, 0); s != c.want {
			t.Errorf("%v: a sector was still pending: %q", c.keep, s)
		}
	}
	d := base.NewDisk()
	mustWrite(t, d, 0, 0, "abc")
	d.Crash(nil)
	d.Crash([]int{1})
	d.Start()
	if d.Size(0) != 0 {
		t.Error("a crash of a machine that is down")
	}
}

// P1.6: a schedule counts the calls while the machine is up, whatever they return.
func TestArm(t *testing.T) {
	for n := 1; n <= 7; n++ {
		d := base.NewDisk()
		d.Arm(n, []int{1})
		results := []api.Errno{d.Write(0, 0, "a"), d.Write(0, -1, "b"), d.Sync(16), d.Truncate(0, 0), d.Write(0, 0, "c"), d.Write(0, maxFile, "d")}
		plain := []api.Errno{api.OK, api.ErrArg, api.ErrArg, api.OK, api.OK, api.ErrFull}
		for i, e := range results {
			want := plain[i]
			if i+1 >= n {
				want = api.ErrDown
			}
			if e != want {
				t.Error(n, i, e)
			}
		}
		if d.Down() != (n < 7) {
			t.Error(n, d.Down())
		}
		d.Start()
		if s := content(t, d, 0); s != []string{"a", "a", "a", "a", "c", "c", "c"}[n-1] {
			t.Errorf("%d: %q", n, s)
		}
	}
}

// P1.6: reads, sizes and calls while the machine is down are not counted.
func TestArmCounts(t *testing.T) {
	d := base.NewDisk()
	d.Crash(nil)
	d.Arm(2, nil)
	d.Write(0, 0, "a")
	d.Sync(0)
	d.Truncate(0, 0)
	d.Crash(nil)
	d.Start()
	d.Read(0, 0, 1)
	d.Size(0)
	d.Copy().Sync(0)
	d.Lose(0)
	if e := d.Sync(0); e != api.OK {
		t.Error("the first call", e)
	}
	if e := d.Sync(0); e != api.ErrDown {
		t.Error("the second call", e)
	}
	d.Start()
	if d.Sync(0) != api.OK || d.Sync(0) != api.OK {
		t.Error("the schedule was not cancelled")
	}
}

// P1.6: what the n-th call does before the crash.
func TestArmedCalls(t *testing.T) {
	set := func() *base.Disk {
		d := base.NewDisk()
		mustWrite(t, d, 0, 0, strings.Repeat("a", 100))
		return d
	}
	d := set()
	d.Arm(1, []int{1, 0, 1})
	if d.Write(0, 100, strings.Repeat("b", 100)) != api.ErrDown {
		t.Error("write")
	}
	d.Start()
	// The sectors 0, 1, 2, 3 are pending in this order; 0, 2 and 3 survive.
	if s := content(t, d, 0); s != strings.Repeat("a", 64)+strings.Repeat("\x00", 64)+strings.Repeat("b", 72) {
		t.Errorf("the write was not performed: %q", s)
	}
	d = set()
	d.Lose(1)
	d.Arm(1, nil)
	if d.Sync(0) != api.ErrDown {
		t.Error("sync")
	}
	d.Start()
	if d.Size(0) != 0 || d.Sync(0) != api.ErrLost {
		t.Error("the sync was performed")
	}
	d = set()
	d.Arm(1, []int{1})
	if d.Truncate(0, 0) != api.ErrDown {
		t.Error("truncate")
	}
	d.Start()
	if content(t, d, 0) != strings.Repeat("a", 100) {
		t.Error("the truncate was performed")
	}
}

// P1.6: when no crash is scheduled.
func TestNoSchedule(t *testing.T) {
	for _, n := range []int{0, -1, math.MinInt} {
		d := base.NewDisk()
		d.Arm(1, nil)
		d.Arm(n, nil)
		if d.Sync(0) != api.OK {
			t.Error("Arm", n)
		}
	}
	d := base.NewDisk()
	d.Arm(1, nil)
	d.Arm(2, nil)
	if d.Sync(0) != api.OK || d.Sync(0) != api.ErrDown {
		t.Error("the schedule was not replaced")
	}
	d = base.NewDisk()
	d.Arm(1, nil)
	d.Crash(nil)
	d.Start()
	if d.Sync(0) != api.OK {
		t.Error("a crash did not cancel the schedule")
	}
}

// P1.13, P3: keep is neither modified, nor kept, nor read beyond its length.
func TestKeepIsCopied(t *testing.T) {
	keep := []int{0, 1}
	d := base.NewDisk()
	mustWrite(t, d, 0, 0, strings.Repeat("a", 128))
	d.Arm(1, keep[:1])
	c := d.Copy()
	keep[0] = 1
	for _, x := range []*base.Disk{d, c} {
		x.Sync(0)
		x.Start()
		if x.Size(0) != 0 {
			t.Error("a later modification of keep is observed")
		}
	}
	mustWrite(t, d, 0, 0, strings.Repeat("a", 128))
	keep[0] = 0
	d.Crash(keep[:1])
	d.Start()
	if d.Size(0) != 0 || !slices.Equal(keep, []int{0, 1}) {
		t.Error("keep was modified, or read beyond its length")
	}
}

// model is the disk as the document defines it, byte by byte.
type model struct {
	files, durable [fileCount]string
	pending        [][2]int
	down           bool
	lost, calls    int
	keep           []int
}

// put puts bytes into a string at an offset.
func put(into string, at int, s string) string {
	if s == "" {
		return into
	}
	if len(into) < at {
		into += strings.Repeat("\x00", at-len(into))
	}
	after := ""
	if at+len(s) < len(into) {
		after = into[at+len(s):]
	}
	return into[:at] + s + after
}

// part returns the bytes of s from one offset up to another, as far as they exist.
func part(s string, from, to int) string { return s[min(from, len(s)):min(to, len(s))] }

func (m *model) crash(keep []int) {
	if m.down {
		return
	}
	for i, p := range m.pending {
		if len(keep) > 0 && keep[i%len(keep)]%2 != 0 {
			at := p[1] * sectorSize
			m.durable[p[0]] = put(m.durable[p[0]], at, part(m.files[p[0]], at, at+sectorSize))
		}
	}
	m.files = m.durable
	m.pending = nil
	m.down, m.calls = true, 0
}

func (m *model) settle(f, size int) {
	m.files[f] = m.files[f][:size]
	m.durable[f] = m.files[f]
	m.pending = slices.DeleteFunc(m.pending, func(p [2]int) bool { return p[0] == f })
}

// do performs a call of Write (0), Sync (1) or Truncate (2) with arguments that are valid.
func (m *model) do(call, f, at int, s string) api.Errno {
	if m.down {
		return api.ErrDown
	}
	m.calls--
	now := m.calls == 0
	result := api.Errno(api.OK)
	switch {
	case call == 0:
		m.files[f] = put(m.files[f], at, s)
		for i := at; i < at+len(s); i++ {
			if p := [2]int{f, i / sectorSize}; !slices.Contains(m.pending, p) {
				m.pending = append(m.pending, p)
			}
		}
	case now:
	case call == 1 && m.lost > 0:
		m.lost--
		result = api.ErrLost
	case call == 1:
		m.settle(f, len(m.files[f]))
	case at > len(m.files[f]):
		result = api.ErrArg
	default:
		m.settle(f, at)
	}
	if now {
		m.crash(m.keep)
		return api.ErrDown
	}
	return result
}

func randomKeep(r *rand.Rand) []int {
	keep := make([]int, r.IntN(6))
	for i := range keep {
		keep[i] = r.IntN(7) - 3
	}
	return keep
}

func randomBytes(r *rand.Rand, most int) string {
	b := make([]byte, r.IntN(most+1))
	for i := range b {
		b[i] = byte(r.IntN(4)) // many zeros
	}
	return string(b)
}

// step performs one random call on a disk and on its model.
func step(t *testing.T, r *rand.Rand, d *base.Disk, m *model) {
	t.Helper()
	f, at, s := []int{0, 1, 15}[r.IntN(3)], r.IntN(400), randomBytes(r, 150)
	switch x := r.IntN(30); {
	case x < 14:
		if got, want := d.Write(f, at, s), m.do(0, f, at, s); got != want {
			t.Fatal("Write", got, want)
		}
	case x < 18:
		if got, want := d.Sync(f), m.do(1, f, 0, ""); got != want {
			t.Fatal("Sync", got, want)
		}
	case x < 21:
		if got, want := d.Truncate(f, at), m.do(2, f, at, ""); got != want {
			t.Fatal("Truncate", got, want)
		}
	case x < 22:
		m.lost = r.IntN(3)
		d.Lose(m.lost)
	case x < 24:
		m.calls, m.keep = r.IntN(8), randomKeep(r)
		d.Arm(m.calls, m.keep)
	case x < 26:
		keep := randomKeep(r)
		d.Crash(keep)
		m.crash(keep)
	default:
		d.Start()
		m.down = false
	}
}

// P1.4 to P1.6, P1.3: the disk behaves as the definitions say, also one that is copied.
func TestDiskAgainstDefinitions(t *testing.T) {
	for seed := range uint64(60) {
		r := rand.New(rand.NewPCG(seed, 1))
		d, m := base.NewDisk(), &model{}
		for range 300 {
			step(t, r, d, m)
			if r.IntN(20) == 0 {
				old := d
				d = d.Copy()
				old.Crash([]int{1})
				old.Start()
				old.Write(0, 0, "other")
			}
			if d.Down() != m.down {
				t.Fatal("Down", d.Down())
			}
			for f, want := range m.files {
				if d.Size(f) != len(want) {
					t.Fatal("Size", f, d.Size(f), len(want))
				}
				if got, _ := d.Read(f, 0, 1000); !m.down && got != want {
					t.Fatalf("seed %d, file %d: %q, want %q", seed, f, got, want)
				}
			}
		}
	}
}

// checkCrash checks what a file is after a crash, from what it was, and what was durable.
func checkCrash(t *testing.T, before, safe, after string) {
	t.Helper()
	if len(after) < len(safe) || len(after) > len(before) {
		t.Fatalf("%d bytes, of %d and %d", len(after), len(safe), len(before))
	}
	for at := 0; at < len(after); at += sectorSize {
		got, lives, dies := part(after, at, at+sectorSize), part(before, at, at+sectorSize), part(safe, at, at+sectorSize)
		zeros := strings.Repeat("\x00", len(got)-min(len(got), len(dies)))
		if got != lives && got != dies+zeros {
			t.Fatalf("the sector at %d is torn: %q", at, got)
		}
	}
}

// P1.16, P1.17
func TestCrashesBySectors(t *testing.T) {
	for seed := range uint64(40) {
		r := rand.New(rand.NewPCG(seed, 2))
		d := base.NewDisk()
		for range 40 {
			switch r.IntN(8) {
			case 0:
				d.Sync(0)
			case 1:
				d.Truncate(0, r.IntN(d.Size(0)+1))
			default:
				d.Write(r.IntN(2), r.IntN(300), randomBytes(r, 100))
			}
			d.Sync(2)
			mustWrite(t, d, 2, 0, "synced")
			d.Sync(2)
			before, safe := content(t, d, 0), durable(t, d, 0)
			c := d.Copy()
			c.Crash(randomKeep(r))
			c.Start()
			checkCrash(t, before, safe, content(t, c, 0))
			if content(t, c, 2) != "synced" {
				t.Fatal("synced data was lost")
			}
		}
	}
}

// P1.16: all sets of surviving sectors are possible, independently of each other.
func TestSectorsSurviveIndependently(t *testing.T) {
	for set := range 16 {
		d := base.NewDisk()
		mustWrite(t, d, 0, 0, strings.Repeat("a", 256))
		d.Sync(0)
		mustWrite(t, d, 0, 0, strings.Repeat("b", 256))
		d.Crash([]int{set & 1, set >> 1 & 1, set >> 2 & 1, set >> 3 & 1})
		d.Start()
		s := content(t, d, 0)
		for n := range 4 {
			want := strings.Repeat(string("ab"[set>>n&1]), sectorSize)
			if part(s, n*sectorSize, (n+1)*sectorSize) != want {
				t.Errorf("set %b, sector %d", set, n)
			}
		}
	}
}

// P1.16: Truncate is atomic.
func TestTruncateIsAtomic(t *testing.T) {
	for call := 1; call <= 2; call++ {
		d := base.NewDisk()
		mustWrite(t, d, 0, 0, strings.Repeat("a", 200))
		d.Sync(0)
		d.Arm(call, []int{1, 0})
		d.Truncate(0, 70)
		d.Sync(1)
		d.Start()
		if want := []int{200, 70}[call-1]; content(t, d, 0) != strings.Repeat("a", want) {
			t.Error(call, d.Size(0))
		}
	}
}

// P1: no call panics, whatever its arguments are.
func TestDiskTakesAllArguments(t *testing.T) {
	numbers := []int{math.MinInt, -maxFile, -1, 0, 1, 15, 16, 63, 64, maxFile - 1, maxFile, maxFile + 1, math.MaxInt}
	d := base.NewDisk()
	for _, f := range numbers {
		d.Size(f)
		for _, n := range numbers {
			for _, s := range []string{"", "ab"} {
				d.Write(f, n, s)
			}
			for _, size := range []int{math.MinInt, -1, 0, 1, 65, math.MaxInt} {
				if n < 0 || n > 64 { // not the whole of a long file
					d.Read(f, n, size)
				}
			}
			d.Arm(n, nil)
			d.Lose(n)
			d.Truncate(f, n)
			d.Sync(f)
			d.Crash(numbers)
			d.Start()
		}
	}
}
