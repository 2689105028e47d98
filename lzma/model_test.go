package lzma_test

import (
	"maps"
	"slices"

	"hamper/api"
	"hamper/lzma"
)

// The model tells each answer by the document's words alone: chances by their names, numbers that are multiplied and divided, all bytes that came since Forget, every distance.

const (
	top    = 1 << 32
	narrow = 1 << 24
)

// name is a chance's: its kind, which of that kind, which of a tree.
type name struct {
	kind     string
	a, b     int
	treeNode int
}

// used counts the bits that chances had, so that a test can tell what it did not come to.
type used map[name]*[2]int

func (u used) note(n name, bit int) {
	if u == nil {
		return
	}
	if u[n] == nil {
		u[n] = new([2]int)
	}
	u[n][bit]++
}

// chances are those that are no longer even.
type chances map[name]int

func (c chances) of(n name) int {
	if p, ok := c[n]; ok {
		return p
	}
	return 1024
}

func (c chances) learn(n name, bit int) {
	p := c.of(n)
	if bit == 0 {
		c[n] = p + (2048-p)/32
	} else {
		c[n] = p - p/32
	}
}

func powerOf2(n int) int {
	p := 1
	for ; n > 0; n-- {
		p *= 2
	}
	return p
}

// output writes bits (chapter 13): carries go at once into what was written.
type output struct {
	low, width int
	out        []byte
}

func newOutput() *output { return &output{width: top - 1, out: []byte{0}} }

func (w *output) bit(c chances, n name, bit int) {
	b := w.width / 2048 * c.of(n)
	if bit == 0 {
		w.width = b
	} else {
		w.low += b
		w.width -= b
	}
	c.learn(n, bit)
	w.widen()
}

func (w *output) direct(v, n int) {
	for place := n - 1; place >= 0; place-- {
		w.width /= 2
		if v/powerOf2(place)%2 == 1 {
			w.low += w.width
		}
		w.widen()
	}
}

func (w *output) widen() {
	w.carry()
	for w.width < narrow {
		w.width *= 256
		w.out = append(w.out, byte(w.low/narrow))
		w.low = w.low % narrow * 256
	}
}

func (w *output) carry() {
	if w.low < top {
		return
	}
	w.low -= top
	at := len(w.out) - 1
	for ; w.out[at] == 255; at-- {
		w.out[at] = 0
	}
	w.out[at]++
}

func (w *output) bytes() []byte {
	return append(slices.Clone(w.out), byte(w.low/narrow), byte(w.low/65536), byte(w.low/256), byte(w.low))
}

// input reads bits (chapter 13).
type input struct {
	code, width int
	rest        []byte
	ended       bool
}

func newInput(b []byte) (*input, api.Errno) {
	if len(b) < 5 {
		return nil, api.ErrEnd
	}
	if b[0] != 0 {
		return nil, api.ErrForm
	}
	code := int(b[1])*narrow + int(b[2])*65536 + int(b[3])*256 + int(b[4])
	return &input{code: code, width: top - 1, rest: slices.Clone(b[5:])}, api.OK
}

func (r *input) bit(c chances, n name) int {
	b := r.width / 2048 * c.of(n)
	bit := 0
	if r.code < b {
		r.width = b
	} else {
		bit = 1
		r.code -= b
		r.width -= b
	}
	c.learn(n, bit)
	r.widen()
	return bit
}

func (r *input) direct(n int) int {
	v := 0
	for range n {
		bit := 0
		r.width /= 2
		if r.code >= r.width {
			bit = 1
			r.code -= r.width
		}
		r.widen()
		v = 2*v + bit
	}
	return v
}

// widen reads bytes 0 where there are none: whoever reads a piece asks behind it whether there were.
func (r *input) widen() {
	for r.width < narrow {
		r.width *= 256
		r.code = r.code * 256 % top
		if len(r.rest) == 0 {
			r.ended = true
			continue
		}
		r.code += int(r.rest[0])
		r.rest = r.rest[1:]
	}
}

func (r *input) done() bool { return len(r.rest) == 0 && r.code == 0 && !r.ended }

// The kinds of pieces.
const (
	aByte = iota
	aMatch
	aFar
	aOne
)

// piece is a byte c; a match of n bytes, f + 1 back; a far one j of n bytes; one byte of F0.
type piece struct {
	kind int
	c    byte
	n    int
	f    int
	j    int
}

func (p piece) size() int {
	if p.kind == aByte || p.kind == aOne {
		return 1
	}
	return p.n
}

// model is a state by the chapter's words.
type model struct {
	window  int
	props   lzma.Props
	set     bool // whether there are props
	came    []byte
	f       [4]int
	z       int
	chances chances
	used    used // may be nil
}

func newModel(window int) *model { return &model{window: window, chances: chances{}} }

func (m *model) clone() *model {
	c := *m
	c.came = slices.Clone(m.came)
	c.chances = maps.Clone(m.chances)
	return &c
}

func mayBe(p lzma.Props) bool {
	in := func(v, least, most int) bool { return v >= least && v <= most }
	return in(p.Lc, 0, 4) && in(p.Lp, 0, 4) && in(p.Lc+p.Lp, 0, 4) && in(p.Pb, 0, 4)
}

func (m *model) reset(p lzma.Props) api.Errno {
	if !mayBe(p) {
		return api.ErrArg
	}
	m.props, m.set = p, true
	m.f, m.z, m.chances = [4]int{}, 0, chances{}
	return api.OK
}

func (m *model) restart() api.Errno {
	if !m.set {
		return api.ErrArg
	}
	return m.reset(m.props)
}

func (m *model) forget() api.Errno {
	m.came = nil
	return api.OK
}

func (m *model) copy(b []byte) api.Errno {
	if len(b) > 1048576 {
		return api.ErrBig
	}
	m.came = append(m.came, b...)
	return api.OK
}

// text tells the last window bytes of what came.
func (m *model) text() []byte {
	if len(m.came) <= m.window {
		return m.came
	}
	return m.came[len(m.came)-m.window:]
}

// back tells the byte so far back.
func (m *model) back(distance int) int {
	t := m.text()
	if distance > len(t) {
		return 0
	}
	return int(t[len(t)-distance])
}

func (m *model) y() int { return len(m.came) % powerOf2(m.props.Pb) }

// lit tells the chances of the next byte, of which one is told by its number.
func (m *model) lit() func(at int) name {
	ahead := 0
	if len(m.came) > 0 {
		ahead = int(m.came[len(m.came)-1])
	}
	k := len(m.came)%powerOf2(m.props.Lp)*powerOf2(m.props.Lc) + ahead/powerOf2(8-m.props.Lc)
	return func(at int) name { return name{"lit", k, 0, at} }
}

// behind goes on with F, Z and the bytes behind a piece. A piece that goes too far back makes bytes 0.
func (m *model) behind(p piece) {
	z := m.z
	below7 := func(yes, no int) int {
		if z < 7 {
			return yes
		}
		return no
	}
	switch p.kind {
	case aByte:
		switch {
		case z < 4:
			m.z = 0
		case z < 10:
			m.z = z - 3
		default:
			m.z = z - 6
		}
		m.came = append(m.came, p.c)
		return
	case aMatch:
		m.f = [4]int{p.f, m.f[0], m.f[1], m.f[2]}
		m.z = below7(7, 10)
	case aFar:
		l := slices.Delete(slices.Clone(m.f[:]), p.j, p.j+1)
		m.f = [4]int{m.f[p.j], l[0], l[1], l[2]}
		m.z = below7(8, 11)
	case aOne:
		m.z = below7(9, 11)
	}
	for range p.size() {
		m.came = append(m.came, byte(m.back(m.f[0]+1)))
	}
}

// slot tells the slot of f, and how many bits its rest has.
func slot(f int) (s, bits int) {
	if f < 4 {
		return f, 0
	}
	e := 2
	for powerOf2(e+1) <= f {
		e++
	}
	return 2*e + f/powerOf2(e-1)%2, e - 1
}

// flow is what pieces are written to, or read of: told a bit, it writes it and tells it again, or it tells the one that it reads.
type flow struct {
	w *output
	r *input
	m *model
}

func (l flow) bit(n name, bit int) int {
	if l.w != nil {
		l.w.bit(l.m.chances, n, bit)
	} else {
		bit = l.r.bit(l.m.chances, n)
	}
	l.m.used.note(n, bit)
	return bit
}

// tree is the number v of n bits, the highest first.
func (l flow) tree(n name, v, bits int) int {
	node := 1
	for place := bits - 1; place >= 0; place-- {
		n.treeNode = node
		node = 2*node + l.bit(n, v/powerOf2(place)%2)
	}
	return node - powerOf2(bits)
}

// reverse is the number v of n bits, the lowest first.
func (l flow) reverse(n name, v, bits int) int {
	node, told := 1, 0
	for place := range bits {
		n.treeNode = node
		bit := l.bit(n, v/powerOf2(place)%2)
		node = 2*node + bit
		told += bit * powerOf2(place)
	}
	return told
}

func (l flow) direct(v, bits int) int {
	if l.w != nil {
		l.w.direct(v, bits)
		return v
	}
	return l.r.direct(bits)
}

func (l flow) length(kind string, n int) int {
	y := l.m.y()
	if n == 0 { // it is read
		n = 2
	}
	first, second := 0, 0
	if n >= 10 {
		first = 1
	}
	if n >= 18 {
		second = 1
	}
	if l.bit(name{kind: kind + " choice"}, first) == 0 {
		return 2 + l.tree(name{kind: kind + " low", a: y}, n-2, 3)
	}
	if l.bit(name{kind: kind + " choice2"}, second) == 0 {
		return 10 + l.tree(name{kind: kind + " mid", a: y}, n-10, 3)
	}
	return 18 + l.tree(name{kind: kind + " high"}, n-18, 8)
}

func (l flow) distance(n, f int) int {
	s, bits := slot(f)
	s = l.tree(name{kind: "slot", a: min(n-2, 3)}, s, 6)
	if s < 4 {
		return s
	}
	bits = s/2 - 1
	least := powerOf2(bits+1) + s%2*powerOf2(bits)
	rest := f - least
	if l.w == nil {
		rest = 0
	}
	if s <= 13 {
		return least + l.reverse(name{kind: "near", a: s}, rest, bits)
	}
	high := l.direct(rest/16, bits-4)
	return least + high*16 + l.reverse(name{kind: "align"}, rest%16, 4)
}

func (l flow) single(c byte) byte {
	chance := l.m.lit()
	w, like := l.m.back(l.m.f[0]+1), l.m.z >= 7
	node := 1
	for place := 7; place >= 0; place-- {
		its := w / powerOf2(place) % 2
		at := node
		if like {
			at = 256 + 256*its + node
		}
		bit := l.bit(chance(at), int(c)/powerOf2(place)%2)
		node = 2*node + bit
		like = like && bit == its
	}
	return byte(node % 256)
}

func one(yes bool) int {
	if yes {
		return 1
	}
	return 0
}

// piece writes the piece, or reads one; it does not go on behind it.
func (l flow) piece(p piece) piece {
	z, y := l.m.z, l.m.y()
	if l.bit(name{kind: "match", a: z, b: y}, one(p.kind != aByte)) == 0 {
		return piece{kind: aByte, c: l.single(p.c)}
	}
	if l.bit(name{kind: "rep", a: z}, one(p.kind != aMatch)) == 0 {
		n := l.length("match", p.n)
		return piece{kind: aMatch, n: n, f: l.distance(n, p.f)}
	}
	if l.bit(name{kind: "rep0", a: z}, one(p.j > 0)) == 0 {
		if l.bit(name{kind: "long", a: z, b: y}, one(p.kind != aOne)) == 0 {
			return piece{kind: aOne}
		}
		return piece{kind: aFar, n: l.length("far", p.n)}
	}
	j := 1
	if l.bit(name{kind: "rep1", a: z}, one(p.j > 1)) == 1 {
		j = 2 + l.bit(name{kind: "rep2", a: z}, one(p.j > 2))
	}
	return piece{kind: aFar, j: j, n: l.length("far", p.n)}
}

// write writes pieces, and goes on behind them.
func (m *model) write(pieces ...piece) []byte {
	l := flow{w: newOutput(), m: m}
	for _, p := range pieces {
		l.piece(p)
		m.behind(p)
	}
	return l.w.bytes()
}

// lying tells how many bytes of what stands behind a place are those so far back, at most most.
func lying(all []byte, at, distance, most int) int {
	n := 0
	for n < most && at+n < len(all) && all[at+n] == all[at+n-distance] {
		n++
	}
	return n
}

// next tells which piece is next at a place, what stands ahead having the model's F.
func (m *model) next(all []byte, at int) piece {
	ahead := min(at, m.window)
	length, distance := 0, 0
	for d := 1; d <= ahead; d++ {
		if n := lying(all, at, d, 273); n > length {
			length, distance = n, d
		}
	}
	j, again := 0, 0
	for i, f := range m.f {
		if f+1 > ahead {
			continue
		}
		if n := lying(all, at, f+1, 273); n > again {
			j, again = i, n
		}
	}
	switch {
	case again >= 2 && again+1 >= length:
		return piece{kind: aFar, j: j, n: again}
	case length >= 2:
		return piece{kind: aMatch, n: length, f: distance - 1}
	}
	return piece{kind: aByte, c: all[at]}
}

// pack packs bytes; beside the answer it tells the pieces.
func (m *model) pack(b []byte) ([]byte, []piece, api.Errno) {
	if !m.set {
		return nil, nil, api.ErrArg
	}
	if len(b) > 1048576 {
		return nil, nil, api.ErrBig
	}
	l := flow{w: newOutput(), m: m}
	all := slices.Concat(m.came, b)
	var pieces []piece
	for len(m.came) < len(all) {
		p := m.next(all, len(m.came))
		l.piece(p)
		m.behind(p)
		pieces = append(pieces, p)
	}
	return l.w.bytes(), pieces, api.OK
}

func (m *model) unpack(packed []byte, n int) ([]byte, api.Errno) {
	if !m.set || n < 0 || n > 1048576 {
		return nil, api.ErrArg
	}
	r, e := newInput(packed)
	if e != api.OK {
		return nil, e
	}
	next := m.clone()
	l := flow{r: r, m: next}
	for end := len(m.came) + n; len(next.came) < end; {
		p := l.piece(piece{})
		if r.ended {
			return nil, api.ErrEnd
		}
		f := next.f[0]
		if p.kind == aMatch {
			f = p.f
		} else if p.kind == aFar {
			f = next.f[p.j]
		}
		if p.kind == aMatch && p.f == top-1 || p.size() > end-len(next.came) {
			return nil, api.ErrForm
		}
		if p.kind != aByte && f+1 > len(next.text()) {
			return nil, api.ErrBack
		}
		next.behind(p)
	}
	if !r.done() {
		return nil, api.ErrForm
	}
	*m = *next
	return slices.Clone(m.came[len(m.came)-n:]), api.OK
}
