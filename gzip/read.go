package gzip

import (
	"bytes"
	"errors"

	"hamper/api"
	"hamper/inflate"
	"hamper/number"
	"hamper/sums"
)

const (
	headBytes = 10 // that each member begins with
	tailBytes = 8  // behind each packed text
)

// Read tells the members of bytes; at most so many bytes come out.
func Read(b []byte, most int) ([]Member, api.Errno) {
	if most < 0 || most > api.MaxBytes {
		return nil, api.ErrArg
	}
	r := &reading{bytes: b, most: most}
	var l []Member
	var wrong fault
members:
	for len(l) == 0 || r.left() > 0 { // there must be one, even in no bytes
		m, err := r.member()
		if errors.As(err, &wrong) {
			break members
		}
		l = append(l, m)
	}
	if wrong != (fault{}) {
		return nil, wrong.number
	}
	return l, api.OK
}

// Text tells all members' texts, one behind the other.
func Text(b []byte, most int) ([]byte, api.Errno) {
	l, e := Read(b, most)
	if e != api.OK {
		return nil, e
	}
	var texts [][]byte
	for _, m := range l {
		texts = append(texts, m.Data)
	}
	return join(texts...), api.OK
}

// fault is what is wrong with a member.
type fault struct{ number api.Errno }

// Error tells the number.
func (f fault) Error() string { return "a member: " + f.number.Error() }

// reading is what is known in the midst of members.
type reading struct {
	bytes []byte
	at    int
	most  int // bytes that may still come out
}

// left tells how many bytes are not read yet.
func (r *reading) left() int { return len(r.bytes) - r.at }

// take reads so many bytes.
func (r *reading) take(n int) ([]byte, error) {
	if n > r.left() {
		return nil, fault{api.ErrEnd}
	}
	from := r.at
	r.at += n
	return r.bytes[from:r.at], nil
}

// pair reads a number of two bytes, the lowest first.
func (r *reading) pair() (uint16, error) {
	v, next, e := number.Low(r.bytes, r.at, 2)
	if e != api.OK {
		return 0, fault{e}
	}
	r.at = next
	return uint16(v), nil
}

// line reads a text up to a byte 0, and that.
func (r *reading) line() (string, error) {
	n := bytes.IndexByte(r.bytes[r.at:], 0)
	if n < 0 {
		return "", fault{api.ErrEnd}
	}
	from := r.at
	r.at += n + 1
	return string(r.bytes[from : from+n]), nil
}

// member reads a member.
func (r *reading) member() (m Member, err error) {
	if m.Name, m.Time, err = r.head(); err != nil {
		return Member{}, err
	}
	if m.Data, err = r.text(); err != nil {
		return Member{}, err
	}
	return m, r.compare(m.Data)
}

// head reads what stands ahead of a member's packed text. Whether the name is too long is asked last: all other errors of a header go ahead of that.
func (r *reading) head() (name string, time int, err error) {
	from := r.at
	flags, time, err := r.firstBytes()
	if err == nil && flags&hasExtra != 0 {
		err = r.passExtra()
	}
	if err == nil && flags&hasName != 0 {
		name, err = r.line()
	}
	if err == nil && flags&hasRemark != 0 {
		_, err = r.line()
	}
	if err == nil && flags&hasSum != 0 {
		err = r.compareHead(from)
	}
	if err == nil && !Name(name) {
		err = fault{api.ErrForm}
	}
	return name, time, err
}

// firstBytes reads what each member begins with, and tells the flags and the time.
func (r *reading) firstBytes() (flags byte, time int, err error) {
	b, err := r.take(headBytes)
	if err != nil {
		return 0, 0, err
	}
	if b[0] != firstMagic || b[1] != secondMagic {
		return 0, 0, fault{api.ErrForm}
	}
	flags = b[3]
	if b[2] != deflated || flags&notKnown != 0 {
		return 0, 0, fault{api.ErrKind}
	}
	v, _, _ := number.Low(b, 4, 4)
	return flags, int(v), nil
}

// passExtra passes over a field that says ahead how long it is.
func (r *reading) passExtra() error {
	n, err := r.pair()
	if err == nil {
		_, err = r.take(int(n))
	}
	return err
}

// compareHead reads a header's sum, and asks whether it is that of the bytes from the header's first one on.
func (r *reading) compareHead(from int) error {
	sum := sums.Crc32(0, r.bytes[from:r.at])
	told, err := r.pair()
	if err == nil && told != uint16(sum) {
		err = fault{api.ErrSum}
	}
	return err
}

// text reads a packed text.
func (r *reading) text() ([]byte, error) {
	text, used, e := inflate.Inflate(r.bytes[r.at:], r.most)
	if e != api.OK {
		return nil, fault{e}
	}
	r.at += used
	r.most -= len(text)
	return text, nil
}

// compare reads what stands behind a packed text, and asks whether it is what such a text has.
func (r *reading) compare(text []byte) error {
	b, err := r.take(tailBytes)
	if err == nil && !bytes.Equal(b, tail(text)) {
		err = fault{api.ErrSum}
	}
	return err
}
