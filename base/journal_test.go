package base_test

import (
	"math"
	"math/rand/v2"
	"slices"
	"strings"
	"testing"

	"cloak/api"
	"cloak/base"
)

// mustOpen opens a journal, and stops the test if this is refused.
func mustOpen(t *testing.T, d *base.Disk, file int) *base.Journal {
	t.Helper()
	j, e := base.OpenJournal(d, file)
	if e != api.OK {
		t.Fatal("OpenJournal", e)
	}
	return j
}

// form is the form of a record as the document defines it.
func form(record string) string { return base.Text(record) + base.Num(base.Sum(record)) }

// P1.7
func TestSum(t *testing.T) {
	for s, want := range map[string]int{"": 0, "a": 97, "ab": 293, "ba": 292, "\x00": 0, "\x00\xff": 510, "é": 0xc3 + 2*0xa9} {
		if got := base.Sum(s); got != want {
			t.Errorf("%q: %d", s, got)
		}
	}
	if got := base.Sum(strings.Repeat("\xff", 1000000)); got != 255*1000000*1000001/2 {
		t.Error("a long record:", got)
	}
}

// P1.7: the records of a file, and what is cut off.
func TestOpenJournal(t *testing.T) {
	most, more := strings.Repeat("m", api.MaxRecord), strings.Repeat("m", api.MaxRecord+1)
	for _, c := range []struct {
		file string
		want []string
		size int
	}{
		{"", nil, 0},
		{"2:ab,293;1:a,98;", []string{"ab"}, 9},
		{"2:ab,293;0:,0;", []string{"ab", ""}, 14},
		{"1:a,97;1:a,97", []string{"a"}, 7},
		{"1:a,97;1:a,97;1", []string{"a", "a"}, 14},
		{"1:a,97;\x00\x00\x00", []string{"a"}, 7},
		{"1:\x00,97;1:b,98;", nil, 0},
		{"01:a,97;", nil, 0},
		{"1:a,097;", nil, 0},
		{"1:a,-97;", nil, 0},
		{"1:a,97,1:b,98;", nil, 0},
		{"97;1:a,", nil, 0},
		{form(most) + form("x"), []string{most, "x"}, len(form(most)) + 8},
		{"1:a,97;" + form(more) + form("x"), []string{"a"}, 7},
	} {
		d := base.NewDisk()
		mustWrite(t, d, 5, 0, c.file)
		j := mustOpen(t, d, 5)
		if !slices.Equal(j.All(), c.want) || d.Size(5) != c.size || content(t, d, 5) != c.file[:c.size] {
			t.Errorf("%.40q: %.40q, %d bytes", c.file, j.All(), d.Size(5))
		}
		if durable(t, d, 5) != c.file[:c.size] {
			t.Errorf("%.40q: not durable", c.file)
		}
	}
}

// P1.7: a file that is longer than a journal may become is read; nothing can be appended to it.
func TestOpenLongJournal(t *testing.T) {
	d := base.NewDisk()
	n := base.MaxJournal/len(form("")) + 10
	mustWrite(t, d, 0, 0, strings.Repeat(form(""), n))
	j := mustOpen(t, d, 0)
	if j.Len() != n || j.Append("") != api.ErrFull {
		t.Error(j.Len(), n)
	}
}

// P1.7: the errors, and the calls that OpenJournal makes, which a schedule counts.
func TestOpenJournalCalls(t *testing.T) {
	refused := func(d *base.Disk, file int, want api.Errno) {
		t.Helper()
		if j, e := base.OpenJournal(d, file); j != nil || e != want {
			t.Error("file", file, e, "instead of", want)
		}
	}
	d := base.NewDisk()
	mustWrite(t, d, 0, 0, "1:a,97;torn")
	refused(d, -1, api.ErrArg)
	refused(d, 16, api.ErrArg)
	refused(d, math.MinInt, api.ErrArg)
	d.Lose(1)
	refused(d, 16, api.ErrArg)
	refused(d, 0, api.ErrLost)
	if content(t, d, 0) != "1:a,97;torn" || durable(t, d, 0) != "" {
		t.Error("a lost sync, but the file was changed")
	}
	d.Arm(2, nil)
	refused(d, 0, api.ErrDown)
	refused(d, 0, api.ErrDown)
	refused(d, 16, api.ErrArg)
	d.Start()
	if content(t, d, 0) != "1:a,97;torn" {
		t.Error("the first call is not a sync, or the second one not a truncate")
	}
	d.Arm(3, nil)
	mustOpen(t, d, 0)
	if content(t, d, 0) != "1:a,97;" {
		t.Error("not truncated")
	}
	if d.Sync(0) != api.ErrDown {
		t.Error("not two calls")
	}
	d.Start()
	d.Arm(2, nil)
	mustOpen(t, d, 0)
	if d.Sync(0) != api.ErrDown {
		t.Error("not one call for a file that is not torn")
	}
}

// P1.8: the bytes that are written, and where.
func TestAppend(t *testing.T) {
	d := base.NewDisk()
	j := mustOpen(t, d, 0)
	if j.Append("ab") != api.OK || j.Append("") != api.OK || content(t, d, 0) != "2:ab,293;0:,0;" {
		t.Errorf("%q", content(t, d, 0))
	}
	if durable(t, d, 0) != "" {
		t.Error("Append made the file durable")
	}
	if j.Sync() != api.OK || durable(t, d, 0) != "2:ab,293;0:,0;" {
		t.Error("Sync did not make the file durable")
	}
	j = mustOpen(t, d, 0)
	if j.Append("x,;") != api.OK || content(t, d, 0) != "2:ab,293;0:,0;"+form("x,;") {
		t.Errorf("%q", content(t, d, 0))
	}
}

// P1.8: the order of the errors; those that are not of the disk do not close the journal.
func TestAppendErrors(t *testing.T) {
	most, more := strings.Repeat("m", api.MaxRecord), strings.Repeat("m", api.MaxRecord+1)
	d := base.NewDisk()
	j := mustOpen(t, d, 0)
	if j.Append(more) != api.ErrRange || j.Append(most) != api.OK {
		t.Error("the greatest record")
	}
	for j.Append(most) == api.OK {
	}
	if j.Append(more) != api.ErrRange || j.Append(most) != api.ErrFull || j.Append("") != api.OK {
		t.Error("ErrRange before ErrFull")
	}
	n, size := j.Len(), d.Size(0)
	d.Crash([]int{1})
	if j.Append(more) != api.ErrRange || j.Append(most) != api.ErrFull || j.Append("") != api.ErrDown {
		t.Error("ErrRange and ErrFull before the error of the disk")
	}
	if j.Append(more) != api.ErrState || j.Append(most) != api.ErrState || j.Append("") != api.ErrState || j.Sync() != api.ErrState {
		t.Error("ErrState after an error of the disk")
	}
	if j.Len() != n || d.Size(0) != size {
		t.Error("an error changed the list")
	}
}

// P1.8: the length of a journal reaches MaxJournal exactly.
func TestFullJournal(t *testing.T) {
	d := base.NewDisk()
	j := mustOpen(t, d, 0)
	for base.MaxJournal-d.Size(0) > 20000 {
		if e := j.Append(strings.Repeat("\x00", 10000)); e != api.OK {
			t.Fatal(e)
		}
	}
	// The form of n bytes 0, where n has five digits, has n + 9 bytes.
	left := base.MaxJournal - d.Size(0) - 9
	if j.Append(strings.Repeat("\x00", left+1)) != api.ErrFull || j.Append(strings.Repeat("\x00", left)) != api.OK {
		t.Error("the last record")
	}
	if d.Size(0) != base.MaxJournal || j.Append("") != api.ErrFull || j.Sync() != api.OK {
		t.Error("full", d.Size(0))
	}
	if k := mustOpen(t, d, 0); k.Len() != j.Len() || !slices.Equal(k.All(), j.All()) {
		t.Error("a full journal is not read again")
	}
}

// P1.8: a journal of many short records is built in reasonable time.
func TestManyRecords(t *testing.T) {
	j := mustOpen(t, base.NewDisk(), 0)
	for j.Append("") == api.OK {
	}
	if j.Len() != base.MaxJournal/len(form("")) {
		t.Error(j.Len())
	}
}

// P1.8: after a lost sync, nothing can be appended.
func TestJournalSync(t *testing.T) {
	d := base.NewDisk()
	j := mustOpen(t, d, 0)
	d.Lose(1)
	if j.Append("a") != api.OK || j.Sync() != api.ErrLost || j.Sync() != api.ErrState || j.Append("b") != api.ErrState {
		t.Error("a lost sync")
	}
	if j.Len() != 1 || content(t, d, 0) != form("a") {
		t.Error("a lost sync changed the journal")
	}
	d.Crash(nil)
	d.Start()
	j = mustOpen(t, d, 0)
	d.Crash(nil)
	if j.Sync() != api.ErrDown || j.Sync() != api.ErrState {
		t.Error("a sync while the machine is down")
	}
}

// P1.9, P1.13
func TestRecords(t *testing.T) {
	d := base.NewDisk()
	j := mustOpen(t, d, 0)
	if j.Len() != 0 || j.Get(0) != "" || len(j.All()) != 0 {
		t.Error("an empty journal")
	}
	for _, s := range []string{"a", "", "c"} {
		j.Append(s)
	}
	for range 2 {
		if j.Len() != 3 || j.Get(0) != "a" || j.Get(1) != "" || j.Get(2) != "c" || !slices.Equal(j.All(), []string{"a", "", "c"}) {
			t.Errorf("%q", j.All())
		}
		for _, i := range []int{-1, 3, math.MaxInt, math.MinInt} {
			if j.Get(i) != "" {
				t.Error("Get", i)
			}
		}
		l := j.All()
		l[0] = "changed"
		_ = append(l[:0], "x", "y", "z")
		d.Crash(nil)
		j.Append("d")
	}
}

// history is what a journal may be after a crash: its records, the number of those that must be there, and the record whose Append failed.
type history struct {
	records []string
	synced  int
	torn    []string
}

// fill appends records, with a sync after each stride of them, until the machine goes down or a sync is lost.
func (h *history) fill(j *base.Journal, records []string, stride int) {
	h.records, h.synced, h.torn = j.All(), j.Len(), nil
	for i, s := range records {
		if j.Append(s) != api.OK {
			h.torn = []string{s}
			return
		}
		h.records = append(h.records, s)
		if (i+1)%stride == 0 {
			if j.Sync() != api.OK {
				return
			}
			h.synced = len(h.records)
		}
	}
}

// check checks the records of a journal that was opened after a crash.
func (h *history) check(t *testing.T, j *base.Journal) {
	t.Helper()
	all := slices.Concat(h.records, h.torn)
	if j.Len() < h.synced || j.Len() > len(all) || !slices.Equal(j.All(), all[:j.Len()]) {
		t.Fatalf("%.200q after %.200q, %d synced", j.All(), all, h.synced)
	}
}

// hardRecords look like other records, or like torn ones.
func hardRecords() []string {
	return []string{
		"a", "", "\x00", strings.Repeat("\x00", 130), form("inner"), strings.Repeat(form(""), 30),
		strings.Repeat("b", 200), "c\x00\x00d", "1:a,", strings.Repeat("\xff", 64), "end",
	}
}

// P1.18: a crash at every call, with every set of the first surviving sectors.
func TestJournalSurvivesCrashes(t *testing.T) {
	records := hardRecords()
	for stride := 1; stride <= len(records)+1; stride += 2 {
		for call := 1; call <= 2*len(records)+1; call++ {
			for set := range 64 {
				d := base.NewDisk()
				j := mustOpen(t, d, 0)
				d.Arm(call, []int{set & 1, set >> 1 & 1, set >> 2 & 1, set >> 3 & 1, set >> 4 & 1, set >> 5 & 1})
				h := &history{}
				h.fill(j, records, stride)
				d.Crash([]int{set, set >> 1, set >> 2})
				d.Start()
				k := mustOpen(t, d, 0)
				h.check(t, k)
				before := content(t, d, 0)
				if again := mustOpen(t, d, 0); !slices.Equal(again.All(), k.All()) || content(t, d, 0) != before {
					t.Fatal("opening a file again changed it")
				}
			}
		}
	}
}

// P1.18: many crashes one after another, also while a journal is opened, and with lost syncs.
func TestJournalSurvivesHistories(t *testing.T) {
	records := hardRecords()
	for seed := range uint64(300) {
		r := rand.New(rand.NewPCG(seed, 3))
		d := base.NewDisk()
		h := &history{}
		for range 12 {
			d.Lose(r.IntN(2) * r.IntN(2))
			d.Arm(r.IntN(12), randomKeep(r))
			j, e := base.OpenJournal(d, 0)
			if e == api.OK {
				h.check(t, j)
				r.Shuffle(len(records), func(i, k int) { records[i], records[k] = records[k], records[i] })
				h.fill(j, records, 1+r.IntN(4))
			} else if j != nil || e != api.ErrLost && e != api.ErrDown {
				t.Fatal("OpenJournal", e)
			}
			d.Crash(randomKeep(r))
			d.Start()
			d.Lose(0)
			d.Arm(0, nil)
			if r.IntN(2) == 0 {
				h.check(t, mustOpen(t, d.Copy(), 0))
			}
		}
	}
}

// P1.19: values that are appended as records are decoded to a prefix after a crash, and later ones follow them.
func TestValuesInJournal(t *testing.T) {
	values := [][]int{{1, -1}, nil, {math.MinInt}, make([]int, 40), {7}}
	for set := range 32 {
		d := base.NewDisk()
		j := mustOpen(t, d, 2)
		for i, v := range values {
			j.Append(base.Nums(v))
			if i == 1 {
				j.Sync()
			}
		}
		d.Crash([]int{set & 1, set >> 1 & 1, set >> 2 & 1, set >> 3 & 1, set >> 4 & 1})
		d.Start()
		j = mustOpen(t, d, 2)
		kept := j.Len()
		if kept < 2 || kept > len(values) {
			t.Fatal("records", kept)
		}
		j.Append(base.Nums([]int{99}))
		j = mustOpen(t, d, 2)
		want := slices.Concat(values[:kept], [][]int{{99}})
		for i, v := range want {
			r := base.OpenReader(j.Get(i))
			if got := r.Nums(); !slices.Equal(got, v) || !r.Done() {
				t.Error(set, i, got, v)
			}
		}
		if j.Len() != len(want) {
			t.Error("records", j.Len())
		}
	}
}
