package base

import (
	"slices"

	"cloak/api"
)

// MaxJournal is the greatest number of bytes of a journal.
const MaxJournal = 1 << 20

// Journal is a list of records in a file.
type Journal struct {
	disk    *Disk
	file    int
	records []string
	length  int
	broken  bool // the disk has returned an error to Append or Sync
}

// Sum returns the sum of a record.
func Sum(record string) int {
	sum := 0
	for i := range len(record) {
		sum += int(record[i]) * (i + 1)
	}
	return sum
}

// form returns the form of a record.
func form(record string) string { return Text(record) + Num(Sum(record)) }

// readRecords returns the records of a string, and their length.
func readRecords(s string) ([]string, int) {
	var list []string
	length := 0
	r := OpenReader(s)
reading:
	for {
		record := r.Text()
		sum := r.Num()
		switch {
		case r.failed, len(record) > api.MaxRecord, Sum(record) != sum:
			break reading
		}
		list = append(list, record)
		length = len(s) - r.Left()
	}
	return list, length
}

// OpenJournal opens a journal.
func OpenJournal(d *Disk, file int) (*Journal, api.Errno) {
	if file < 0 || file >= fileCount {
		return nil, api.ErrArg
	}
	if e := d.Sync(file); e != api.OK {
		return nil, e
	}
	s, e := d.Read(file, 0, d.Size(file))
	if e != api.OK {
		return nil, e
	}
	records, length := readRecords(s)
	if len(s) > length {
		if e := d.Truncate(file, length); e != api.OK {
			return nil, e
		}
	}
	return &Journal{disk: d, file: file, records: records, length: length}, api.OK
}

// Append appends a record.
func (j *Journal) Append(record string) api.Errno {
	if j.broken {
		return api.ErrState
	}
	if len(record) > api.MaxRecord {
		return api.ErrRange
	}
	f := form(record)
	if j.length+len(f) > MaxJournal {
		return api.ErrFull
	}
	if e := j.disk.Write(j.file, j.length, f); e != api.OK {
		j.broken = true
		return e
	}
	j.records = append(j.records, record)
	j.length += len(f)
	return api.OK
}

// Sync makes all records durable.
func (j *Journal) Sync() api.Errno {
	if j.broken {
		return api.ErrState
	}
	e := j.disk.Sync(j.file)
	j.broken = e != api.OK
	return e
}

// Len returns the number of records.
func (j *Journal) Len() int { return len(j.records) }

// Get returns a record.
func (j *Journal) Get(i int) string {
	if i < 0 || i >= len(j.records) {
		return ""
	}
	return j.records[i]
}

// All returns all records.
func (j *Journal) All() []string { return slices.Clone(j.records) }
