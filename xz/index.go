package xz

import (
	"slices"

	"hamper/api"
	"hamper/number"
)

const (
	mostRecords = 1 << 16
	leastSize   = 5
	mostSize    = 1 << 40
	mostText    = 1 << 40
)

// Record is what an index says of a block: how many bytes it has but for what fills up, how many come out.
type Record struct{ Size, Text int }

// unfit is whether a record may not be.
func (r Record) unfit() bool {
	return r.Size < leastSize || r.Size > mostSize || r.Text < 0 || r.Text > mostText
}

// Index tells the bytes of an index.
func Index(l []Record) ([]byte, api.Errno) {
	if len(l) > mostRecords || slices.ContainsFunc(l, Record.unfit) {
		return nil, api.ErrArg
	}
	b := append([]byte{indexMark}, long(len(l))...)
	for _, r := range l {
		b = append(b, long(r.Size)...)
		b = append(b, long(r.Text)...)
	}
	b = filled(b)
	return append(b, sumOf(b)...), api.OK
}

// long tells a long number that is not below 0.
func long(n int) []byte {
	b, _ := number.PutVar(nil, uint64(n))
	return b
}

// ReadIndex reads an index at the beginning of bytes, and how many it has.
func ReadIndex(b []byte) (l []Record, used int, e api.Errno) {
	c := cursor{bytes: b}
	l, e = c.readRecords()
	if e == api.OK {
		e = c.readFill()
	}
	if e == api.OK {
		e = c.readSum()
	}
	if e != api.OK {
		return nil, 0, e
	}
	return l, c.at, api.OK
}

// readRecords reads an index up to its last record.
func (c *cursor) readRecords() ([]Record, api.Errno) {
	if e := c.expect([]byte{indexMark}, api.ErrForm); e != api.OK {
		return nil, e
	}
	count, e := c.readLong()
	switch {
	case e != api.OK:
		return nil, e
	case count > mostRecords:
		return nil, api.ErrForm
	}
	var l []Record
	for range count {
		r, e := c.readRecord()
		if e != api.OK {
			return nil, e
		}
		l = append(l, r)
	}
	return l, api.OK
}

// readRecord reads a record, whose numbers are looked at when both are read.
func (c *cursor) readRecord() (r Record, e api.Errno) {
	if r.Size, e = c.readLong(); e != api.OK {
		return Record{}, e
	}
	if r.Text, e = c.readLong(); e != api.OK {
		return Record{}, e
	}
	if r.unfit() {
		return Record{}, api.ErrForm
	}
	return r, api.OK
}
