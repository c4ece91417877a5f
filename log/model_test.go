package log

import (
	"bytes"
	"encoding/binary"
	"hash/crc32"
	"slices"
	"testing"

	"lantern/api"
	"lantern/block"
)

// model is a file for a log told by its bytes alone, each time gone through anew.
type model struct {
	bytes []byte
}

// change is one write of a block.
type change struct {
	at int
	b  []byte
}

func (m *model) half() int { return (len(m.bytes)/64 - 2) / 2 * 64 }

func (m *model) start(gen uint64) int {
	if gen%2 == 0 {
		return 128
	}
	return 128 + m.half()
}

func modelHead(gen uint64) []byte {
	b := binary.BigEndian.AppendUint64(nil, gen)
	b = binary.BigEndian.AppendUint32(b, crc32.ChecksumIEEE(b))
	return append(b, make([]byte, 52)...)
}

func (m *model) generation() uint64 {
	best := uint64(0)
	for _, b := range [][]byte{m.bytes[:64], m.bytes[64:128]} {
		gen := binary.BigEndian.Uint64(b)
		if string(b) == string(modelHead(gen)) && gen > best {
			best = gen
		}
	}
	return best
}

func modelRecord(gen uint64, place int, b []byte) []byte {
	sum := binary.BigEndian.AppendUint64(nil, gen)
	sum = binary.BigEndian.AppendUint32(sum, uint32(place))
	sum = binary.BigEndian.AppendUint16(sum, uint16(len(b)))
	sum = append(sum, b...)
	w := binary.BigEndian.AppendUint16(nil, uint16(len(b)))
	w = binary.BigEndian.AppendUint32(w, crc32.ChecksumIEEE(sum))
	return append(w, b...)
}

func (m *model) records() ([][]byte, int) {
	var l [][]byte
	gen, place := m.generation(), 0
	half := m.bytes[m.start(gen):][:m.half()]
	for place+6 < len(half) {
		n := int(binary.BigEndian.Uint16(half[place:]))
		if n == 0 || place+6+n > len(half) {
			break
		}
		b := half[place+6:][:n]
		if !bytes.Equal(half[place:][:6+n], modelRecord(gen, place, b)) {
			break
		}
		l = append(l, b)
		place += 6 + n
	}
	return l, place
}

func (m *model) room() int {
	_, end := m.records()
	return min(max(m.half()-end-6, 0), 65535)
}

// changes are the writes of those blocks of b that from to to touches, the last one first.
func changes(b []byte, from, to int) []change {
	var l []change
	for at := range len(b) / 64 {
		if at*64 < to && at*64+64 > from {
			l = append(l, change{at, slices.Clone(b[at*64:][:64])})
		}
	}
	slices.Reverse(l)
	return l
}

func (m *model) append(b []byte) ([]change, api.Errno) {
	_, end := m.records()
	switch {
	case len(b) == 0:
		return nil, api.ErrArg
	case len(b) > 65535:
		return nil, api.ErrLong
	case end+6+len(b) > m.half():
		return nil, api.ErrFull
	}
	gen := m.generation()
	next := slices.Clone(m.bytes)
	half := next[m.start(gen):][:m.half()]
	w := append(modelRecord(gen, end, b), 0, 0)
	n := copy(half[end:], w)
	return changes(next, m.start(gen)+end, m.start(gen)+end+n), api.OK
}

func (m *model) restart(records [][]byte) ([]change, api.Errno) {
	e := api.OK
	var w []byte
	gen := m.generation() + 1
	for _, b := range records {
		if len(b) == 0 {
			return nil, api.ErrArg
		}
		if len(b) > 65535 {
			e = api.ErrLong
		}
		w = append(w, modelRecord(gen, len(w), b)...)
	}
	if e == api.OK && (len(w) > m.half() || gen == 0) {
		e = api.ErrFull
	}
	if e != api.OK {
		return nil, e
	}
	next := slices.Clone(m.bytes)
	copy(next[m.start(gen):], append(w, make([]byte, m.half()-len(w))...))
	l := changes(next, m.start(gen), m.start(gen)+m.half())
	return append(l, change{int(gen % 2), modelHead(gen)}), api.OK
}

// through is the bytes behind the first k of the changes, and the first t bytes of the next one.
func (m *model) through(l []change, k, t int) []byte {
	b := slices.Clone(m.bytes)
	for i, c := range l {
		if i < k {
			copy(b[c.at*64:], c.b)
		}
		if i == k {
			copy(b[c.at*64:], c.b[:t])
		}
	}
	return b
}

func loaded(t testing.TB, b []byte) *block.File {
	t.Helper()
	f, e := block.Load(b)
	if e != api.OK {
		t.Fatalf("Load of %d bytes: error %d", len(b), e)
	}
	return f
}

func opened(t testing.TB, f *block.File) *Log {
	t.Helper()
	l, e := Open(f)
	if e != api.OK || l == nil {
		t.Fatalf("Open = %v, error %d", l, e)
	}
	return l
}

// fresh is the log of a file of noughts.
func fresh(t testing.TB, blocks int) (*block.File, *Log) {
	t.Helper()
	f := loaded(t, make([]byte, blocks*64))
	return f, opened(t, f)
}

func equal(a, b [][]byte) bool { return slices.EqualFunc(a, b, bytes.Equal) }

// wantLog holds all that l tells against the model of its file's bytes.
func wantLog(t testing.TB, name string, l *Log, m *model) {
	t.Helper()
	want, _ := m.records()
	wantRecords(t, name, l, want)
	if l.Room() != m.room() || l.Generation() != m.generation() {
		t.Fatalf("%s: room %d, generation %d, want %d, %d", name, l.Room(), l.Generation(), m.room(), m.generation())
	}
}

func wantRecords(t testing.TB, name string, l *Log, want [][]byte) {
	t.Helper()
	if l.Len() != len(want) {
		t.Fatalf("%s: Len = %d, want %d", name, l.Len(), len(want))
	}
	for i := range want {
		if b, ok := l.Get(i); !ok || !bytes.Equal(b, want[i]) {
			t.Fatalf("%s: Get(%d) = %x, %v, want %x", name, i, b, ok, want[i])
		}
	}
}

// wantRead holds Read against the model.
func wantRead(t testing.TB, name string, b []byte) {
	t.Helper()
	m := &model{b}
	want, _ := m.records()
	if l, gen, e := Read(b); e != api.OK || gen != m.generation() || !equal(l, want) {
		t.Fatalf("%s: Read = %x, %d, error %d, want %x, %d", name, l, gen, e, want, m.generation())
	}
}

// sample is n bytes, unlike those of another seed.
func sample(n, seed int) []byte {
	b := make([]byte, n)
	for i := range b {
		b[i] = byte(seed*101 + i*7 + i>>8 + 1)
	}
	return b
}

// laid is a file whose half of gen has these records, and heads (those of negative generations are none).
func laid(blocks int, heads [2]int64, gen uint64, records ...[]byte) []byte {
	m := &model{make([]byte, blocks*64)}
	for i, h := range heads {
		if h >= 0 {
			copy(m.bytes[i*64:], modelHead(uint64(h)))
		}
	}
	half := m.bytes[m.start(gen):][:m.half()]
	place := 0
	for _, b := range records {
		place += copy(half[place:], modelRecord(gen, place, b))
	}
	return m.bytes
}
