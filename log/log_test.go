package log

import (
	"bytes"
	"hash/crc32"
	"math"
	"math/rand"
	"slices"
	"testing"
	"unsafe"

	"lantern/api"
	"lantern/block"
)

func TestLo1Sum(t *testing.T) {
	for s, want := range map[string]uint32{"": 0, "123456789": 0xCBF43926, "a": 0xE8B7BE43, "\x00": 0xD202EF8D, "\xff\xff\xff\xff": 0xFFFFFFFF} {
		if n := Sum([]byte(s)); n != want {
			t.Errorf("Sum(%q) = %08x, want %08x", s, n, want)
		}
	}
	if Sum(nil) != 0 {
		t.Error("Sum of nil is not 0")
	}
	for i := range 256 {
		for j := range 256 {
			b := []byte{byte(i), byte(j)}
			if n := Sum(b); n != crc32.ChecksumIEEE(b) {
				t.Fatalf("Sum(%x) = %08x", b, n)
			}
		}
	}
	r := rand.New(rand.NewSource(1))
	for n := range 600 {
		b := make([]byte, n)
		r.Read(b)
		if Sum(b) != crc32.ChecksumIEEE(b) {
			t.Fatalf("Sum of %d bytes = %08x", n, Sum(b))
		}
	}
}

func TestLo1Example(t *testing.T) {
	_, l := fresh(t, 6)
	if l.Room() != 122 || l.Generation() != 0 || l.Len() != 0 {
		t.Errorf("fresh: room %d, generation %d, %d records", l.Room(), l.Generation(), l.Len())
	}
	if e := l.Append([]byte("abc")); e != api.OK || l.Len() != 1 || l.Room() != 113 {
		t.Errorf("Append: error %d, %d records, room %d", e, l.Len(), l.Room())
	}
}

// TestLo1NoLog: what is no file for a log.
func TestLo1NoLog(t *testing.T) {
	for _, n := range []int{0, 1, 63, 64, 128, 320, 383, 385, 447, 64*6 - 64, 4096*64 - 1, 4096*64 + 1, 4097 * 64} {
		if l, gen, e := Read(make([]byte, n)); len(l) != 0 || gen != 0 || e != api.ErrArg {
			t.Errorf("Read of %d bytes = %x, %d, error %d, want ErrArg", n, l, gen, e)
		}
	}
	if l, gen, e := Read(nil); len(l) != 0 || gen != 0 || e != api.ErrArg {
		t.Errorf("Read of nil = %x, %d, error %d, want ErrArg", l, gen, e)
	}
	some := laid(5, [2]int64{4, 3}, 4, []byte("a"))
	if l, gen, e := Read(some); len(l) != 0 || gen != 0 || e != api.ErrArg {
		t.Errorf("Read of 5 blocks = %x, %d, error %d, want ErrArg", l, gen, e)
	}
	copied := *loaded(t, make([]byte, 640))
	for name, f := range map[string]*block.File{"nil": nil, "the zero one": {}, "a copy": &copied} {
		if l, e := Open(f); l != nil || e != api.ErrArg {
			t.Errorf("Open of %s = %v, error %d, want ErrArg", name, l, e)
		}
	}
	for n := 1; n < 6; n++ {
		f, _ := block.New(n)
		if l, e := Open(f); l != nil || e != api.ErrArg {
			t.Errorf("Open of %d blocks = %v, error %d, want ErrArg", n, l, e)
		}
	}
	for _, n := range []int{6, 7, 4095, 4096} {
		f, l := fresh(t, n)
		want := min((n-2)/2*64-6, 65535)
		if l.Room() != want || !bytes.Equal(f.Dump(), make([]byte, n*64)) {
			t.Errorf("%d blocks: room %d, want %d", n, l.Room(), want)
		}
	}
}

// TestLo1OpenWrites: Open writes nothing, burns no fuse and syncs nothing.
func TestLo1OpenWrites(t *testing.T) {
	b := laid(7, [2]int64{2, 1}, 2, []byte("one"), []byte("two"))
	f := loaded(t, b)
	f.Fuse(0, 0)
	l := opened(t, f)
	l.Len()
	l.Get(0)
	l.Room()
	l.Generation()
	if f.Pending() != 0 || !bytes.Equal(f.Dump(), b) {
		t.Error("Open has written")
	}
	f.Crash(0, 0)
	f.Write(6, sample(64, 1))
	l = opened(t, f)
	l.Append(nil)
	l.Append(make([]byte, 999))
	l.Restart([][]byte{nil})
	l.Restart([][]byte{make([]byte, 999)})
	if f.Pending() != 1 {
		t.Error("Open or what was refused has written or synced")
	}
	f.Crash(0, 0)
	if !bytes.Equal(f.Dump(), b) {
		t.Error("Open or what was refused has synced")
	}
}

// TestLo1Heads: which generation counts, whatever stands in which head.
func TestLo1Heads(t *testing.T) {
	gens := []int64{-1, 0, 1, 2, 3, 4, 255, 256, 1 << 32, math.MaxInt64 - 1, math.MaxInt64}
	for _, a := range gens {
		for _, b := range gens {
			want := uint64(max(a, b, 0))
			for odd := range uint64(2) {
				file := laid(8, [2]int64{a, b}, want^odd, []byte("first"), []byte("second"))
				wantRead(t, "heads", file)
				l := opened(t, loaded(t, file))
				if l.Generation() != want {
					t.Fatalf("heads %d, %d: generation %d", a, b, l.Generation())
				}
				if n := l.Len(); n != 2-2*int(odd) {
					t.Fatalf("heads %d, %d: %d records", a, b, n)
				}
			}
		}
	}
	for i := range 2 {
		file := laid(6, [2]int64{-1, -1}, math.MaxUint64, []byte("last"))
		copy(file[i*64:], modelHead(math.MaxUint64))
		if l, gen, e := Read(file); e != api.OK || gen != math.MaxUint64 || len(l) != 1 {
			t.Errorf("the last generation: %x, %d, error %d", l, gen, e)
		}
	}
}

// TestLo1HeadBytes: a head with any byte turned is none.
func TestLo1HeadBytes(t *testing.T) {
	for i := range 64 {
		for bit := range 8 {
			file := laid(6, [2]int64{6, 5}, 5, []byte("of 5"))
			file[i] ^= 1 << bit
			wantRead(t, "a turned head", file)
			if l, gen, e := Read(file); e != api.OK || gen != 5 || len(l) != 1 {
				t.Fatalf("byte %d, bit %d: %x, %d, error %d", i, bit, l, gen, e)
			}
			file = laid(6, [2]int64{6, 5}, 6, []byte("of 6"))
			file[64+i] ^= 1 << bit
			wantRead(t, "a turned head", file)
			if l, gen, e := Read(file); e != api.OK || gen != 6 || len(l) != 1 {
				t.Fatalf("byte %d, bit %d: %x, %d, error %d", i, bit, l, gen, e)
			}
		}
	}
}

// TestLo1Bytes: a file with any bit turned, of odd and even many blocks.
func TestLo1Bytes(t *testing.T) {
	for _, blocks := range []int{6, 7, 9} {
		for gen := range uint64(2) {
			file := laid(blocks, [2]int64{0, int64(gen)}, gen, []byte("a"), sample(60, 1), sample(20, 2))
			for i := range file {
				for bit := range 8 {
					file[i] ^= 1 << bit
					wantRead(t, "a turned bit", file)
					wantLog(t, "a turned bit", opened(t, loaded(t, file)), &model{file})
					file[i] ^= 1 << bit
				}
			}
		}
	}
}

// TestLo1Places: a record at its place in another generation or place is none.
func TestLo1Places(t *testing.T) {
	b := []byte("record")
	file := laid(6, [2]int64{2, 1}, 2)
	copy(file[128:], modelRecord(0, 0, b))
	if l, _, _ := Read(file); len(l) != 0 {
		t.Error("a record of another generation is read")
	}
	copy(file[128:], modelRecord(2, 12, b))
	if l, _, _ := Read(file); len(l) != 0 {
		t.Error("a record of another place is read")
	}
	copy(file[128:], modelRecord(2, 0, b))
	copy(file[140:], modelRecord(2, 0, b))
	if l, _, _ := Read(file); len(l) != 1 {
		t.Error("a record of another place is read")
	}
	copy(file[140:], modelRecord(2, 12, b))
	if l, _, _ := Read(file); len(l) != 2 {
		t.Error("a record of its place is not read")
	}
	copy(file[153:], modelRecord(2, 25, b))
	if l, _, _ := Read(file); len(l) != 2 {
		t.Error("a record behind a gap is read")
	}
}

// TestLo1EmptyRecord: one of no bytes is none, even if its sum is right.
func TestLo1EmptyRecord(t *testing.T) {
	for gen := range uint64(2) {
		file := laid(6, [2]int64{0, int64(gen)}, gen, []byte("a"), nil, []byte("b"))
		wantRead(t, "an empty one", file)
		if l, _, e := Read(file); e != api.OK || len(l) != 1 {
			t.Errorf("an empty one: %x, error %d", l, e)
		}
	}
}

// TestLo1HalfEnd: records are read within their half, up to its last byte.
func TestLo1HalfEnd(t *testing.T) {
	for gen := range uint64(2) {
		for _, n := range []int{121, 122, 123, 128, 65535} {
			file := laid(7, [2]int64{0, int64(gen)}, gen)
			m := &model{file}
			copy(file[m.start(gen):], modelRecord(gen, 0, sample(n, 1)))
			l, _, e := Read(file)
			if want := n <= 122; e != api.OK || (len(l) == 1) != want {
				t.Errorf("generation %d, %d bytes: %d records, error %d", gen, n, len(l), e)
			}
			wantRead(t, "half's end", file)
		}
		// What is left of the half behind the first record is too short for another one, whatever stands there.
		for left := range 9 {
			file := laid(7, [2]int64{0, int64(gen)}, gen, sample(122-left, 3))
			m := &model{file}
			end := m.start(gen) + 128 - left
			copy(file[end:], modelRecord(gen, 128-left, []byte{9, 9, 9}))
			wantRead(t, "half's end", file)
			wantLog(t, "half's end", opened(t, loaded(t, file)), m)
		}
	}
}

// TestLo1LargeRecord: the greatest record, read and appended.
func TestLo1LargeRecord(t *testing.T) {
	for _, n := range []int{255, 256, 65534, 65535} {
		f, l := fresh(t, 4096)
		if e := l.Append(sample(n, n)); e != api.OK {
			t.Fatalf("Append of %d: error %d", n, e)
		}
		if e := l.Append([]byte("behind")); e != api.OK {
			t.Fatalf("Append: error %d", e)
		}
		wantRecords(t, "great", l, [][]byte{sample(n, n), []byte("behind")})
		wantRecords(t, "great, again", opened(t, f), [][]byte{sample(n, n), []byte("behind")})
		wantRead(t, "great", f.Dump())
	}
}

func TestLo1Get(t *testing.T) {
	_, l := fresh(t, 8)
	for n := range 5 {
		for _, i := range []int{math.MinInt, -1 << 32, -1, n, n + 1, 1 << 32, math.MaxInt} {
			if b, ok := l.Get(i); ok || len(b) != 0 {
				t.Errorf("Get(%d) of %d = %x, %v", i, n, b, ok)
			}
		}
		l.Append(sample(3, n))
		if b, ok := l.Get(n); !ok || !bytes.Equal(b, sample(3, n)) {
			t.Errorf("Get(%d) = %x, %v", n, b, ok)
		}
	}
}

// TestLo1Room: at each end of the records, a record of just so many bytes fits, and one more does not.
func TestLo1Room(t *testing.T) {
	for n := 1; n <= 122; n++ {
		_, l := fresh(t, 6)
		if e := l.Append(sample(n, 1)); e != api.OK {
			t.Fatalf("Append of %d: error %d", n, e)
		}
		room := max(122-n-6, 0)
		if l.Room() != room {
			t.Errorf("behind %d: room %d, want %d", n, l.Room(), room)
		}
		if e := l.Append(make([]byte, room+1)); e != api.ErrFull {
			t.Errorf("behind %d: Append of %d = error %d, want ErrFull", n, room+1, e)
		}
		if room == 0 {
			continue
		}
		if e := l.Append(sample(room, 2)); e != api.OK || l.Room() != 0 || l.Len() != 2 {
			t.Errorf("behind %d: Append of %d = error %d, room %d", n, room, e, l.Room())
		}
	}
	// Of 131008 bytes more are left than a record may have, just as many, and less.
	for n, want := range map[int]int{1: 65535, 65460: 65535, 65461: 65535, 65462: 65534, 65535: 65461} {
		_, l := fresh(t, 4096)
		if l.Room() != 65535 {
			t.Errorf("a fresh one: room %d", l.Room())
		}
		l.Append(sample(n, 1))
		if l.Room() != want {
			t.Errorf("behind %d: room %d, want %d", n, l.Room(), want)
		}
	}
}

func TestLo2Refused(t *testing.T) {
	f, l := fresh(t, 6)
	long, full := make([]byte, 65536), make([]byte, 123)
	for _, c := range []struct {
		b    []byte
		want api.Errno
	}{{nil, api.ErrArg}, {[]byte{}, api.ErrArg}, {long, api.ErrLong}, {make([]byte, 1<<20), api.ErrLong}, {full, api.ErrFull}, {long[:65535], api.ErrFull}} {
		if e := l.Append(c.b); e != c.want {
			t.Errorf("Append of %d = error %d, want %d", len(c.b), e, c.want)
		}
	}
	one := []byte("1")
	for name, c := range map[string]struct {
		l    [][]byte
		want api.Errno
	}{
		"an empty one":            {[][]byte{one, nil}, api.ErrArg},
		"an empty one first":      {[][]byte{{}, one}, api.ErrArg},
		"an empty one behind":     {[][]byte{full, long, {}}, api.ErrArg},
		"an empty one ahead":      {[][]byte{nil, long, full}, api.ErrArg},
		"a long one":              {[][]byte{one, long}, api.ErrLong},
		"a long one behind":       {[][]byte{full, full, long, one}, api.ErrLong},
		"one that does not fit":   {[][]byte{full}, api.ErrFull},
		"some that do not fit":    {[][]byte{full[:58], full[:59]}, api.ErrFull},
		"many":                    {slices.Repeat([][]byte{one}, 19), api.ErrFull},
		"the greatest that it is": {[][]byte{long[:65535]}, api.ErrFull},
	} {
		if e := l.Restart(c.l); e != c.want {
			t.Errorf("Restart of %s = error %d, want %d", name, e, c.want)
		}
	}
	if l.Len() != 0 || l.Room() != 122 || l.Generation() != 0 || f.Pending() != 0 || !bytes.Equal(f.Dump(), make([]byte, 384)) {
		t.Error("what was refused has turned something")
	}
	if e := l.Restart([][]byte{full[:58], full[:58]}); e != api.OK || l.Room() != 0 || l.Len() != 2 {
		t.Errorf("Restart that fits = error %d, room %d", e, l.Room())
	}
	if e := l.Restart(slices.Repeat([][]byte{one}, 18)); e != api.OK || l.Room() != 0 || l.Len() != 18 {
		t.Errorf("Restart that fits = error %d, room %d", e, l.Room())
	}
}

// TestLo2LastGeneration: behind the last generation there is none.
func TestLo2LastGeneration(t *testing.T) {
	for _, at := range []int{0, 1} {
		file := laid(6, [2]int64{-1, -1}, math.MaxUint64, []byte("a"))
		copy(file[at*64:], modelHead(math.MaxUint64))
		f := loaded(t, file)
		l := opened(t, f)
		for _, c := range []struct {
			l    [][]byte
			want api.Errno
		}{{nil, api.ErrFull}, {[][]byte{{1}}, api.ErrFull}, {[][]byte{{}}, api.ErrArg}, {[][]byte{make([]byte, 65536)}, api.ErrLong}} {
			if e := l.Restart(c.l); e != c.want {
				t.Errorf("Restart = error %d, want %d", e, c.want)
			}
		}
		if f.Pending() != 0 || !bytes.Equal(f.Dump(), file) || l.Len() != 1 || l.Generation() != math.MaxUint64 {
			t.Error("what was refused has turned something")
		}
		if e := l.Append([]byte("b")); e != api.OK {
			t.Errorf("Append = error %d", e)
		}
		wantRead(t, "the last generation", f.Dump())
		wantRecords(t, "the last generation", opened(t, f), [][]byte{[]byte("a"), []byte("b")})

		file = laid(6, [2]int64{-1, -1}, math.MaxUint64-1, []byte("a"))
		copy(file[at*64:], modelHead(math.MaxUint64-1))
		f = loaded(t, file)
		l = opened(t, f)
		if e := l.Restart([][]byte{{7}}); e != api.OK || l.Generation() != math.MaxUint64 {
			t.Errorf("Restart = error %d, generation %d", e, l.Generation())
		}
		wantRead(t, "the last generation", f.Dump())
	}
}

// act is an Append (of one record) or a Restart.
type act struct {
	restart bool
	records [][]byte
}

func (a act) model(m *model) ([]change, api.Errno) {
	if a.restart {
		return m.restart(a.records)
	}
	return m.append(a.records[0])
}

func (a act) do(l *Log) api.Errno {
	if a.restart {
		return l.Restart(a.records)
	}
	return l.Append(a.records[0])
}

// wantAct does a, and holds the answer, the file and the log behind it against the model.
func wantAct(t testing.TB, a act, f *block.File, l *Log) {
	t.Helper()
	m := &model{f.Dump()}
	c, want := a.model(m)
	if e := a.do(l); e != want {
		t.Fatalf("%v = error %d, want %d", a, e, want)
	}
	m.bytes = m.through(c, len(c), 0)
	if !bytes.Equal(f.Dump(), m.bytes) || f.Pending() != 0 {
		t.Fatalf("%v: %d pending, the file\n%x, want\n%x", a, f.Pending(), f.Dump(), m.bytes)
	}
	wantLog(t, "behind an act", l, m)
}

// wantCrashes does a with the power going at each write of it, torn at bytes 0 and on by a step, and holds the file and the log that is opened behind it against the model.
func wantCrashes(t testing.TB, a act, file []byte, step int) {
	t.Helper()
	m := &model{file}
	c, e := a.model(m)
	if e != api.OK {
		return
	}
	was, _ := m.records()
	done := &model{m.through(c, len(c), 0)}
	will, _ := done.records()
	for k := range len(c) + 1 {
		for tear := 0; tear <= 64; tear += step {
			f := loaded(t, file)
			l := opened(t, f)
			f.Fuse(k, tear)
			if e := a.do(l); e != api.OK {
				t.Fatalf("%v, fuse (%d, %d): error %d", a, k, tear, e)
			}
			f.Crash(0, 0)
			b := m.through(c, k, tear)
			if !bytes.Equal(f.Dump(), b) {
				t.Fatalf("%v, fuse (%d, %d): the file\n%x, want\n%x", a, k, tear, f.Dump(), b)
			}
			l = opened(t, f)
			wantLog(t, "behind a crash", l, &model{b})
			now, _ := (&model{b}).records()
			if !equal(now, was) && !equal(now, will) || k == len(c) && !equal(now, will) {
				t.Fatalf("%v, fuse (%d, %d): %x, neither %x nor %x", a, k, tear, now, was, will)
			}
			f.Crash(0, 0)
			wantLog(t, "behind another crash", opened(t, f), &model{b})
			if step > 1 {
				continue
			}
			// The log goes on from there as from any other file.
			wantAct(t, act{records: [][]byte{{1, 2, 3}}}, f, l)
			wantAct(t, act{restart: true, records: [][]byte{{4}}}, f, l)
		}
	}
}

// TestLo2Append: each length behind each end, the bytes that stood behind the end unlike nought.
func TestLo2Append(t *testing.T) {
	for first := 1; first <= 122; first++ {
		for _, n := range []int{1, 2, 3, 40, 57, 58, 59, 60, 64, 65, 100, 115, 122 - first - 8, 122 - first - 7, 122 - first - 6} {
			if n < 1 {
				continue
			}
			file := bytes.Repeat([]byte{0xee}, 7*64)
			copy(file, laid(7, [2]int64{0, 1}, 1)[:128])
			copy(file[256:], modelRecord(1, 0, sample(first, 1)))
			f := loaded(t, file)
			l := opened(t, f)
			wantAct(t, act{records: [][]byte{sample(n, 2)}}, f, l)
			wantLog(t, "opened again", opened(t, f), &model{f.Dump()})
			wantAct(t, act{records: [][]byte{{5}}}, f, l)
		}
	}
}

// TestLo2AppendBlocks: an append writes the blocks that it touches, the last first, and no other.
func TestLo2AppendBlocks(t *testing.T) {
	for n := 1; n <= 400; n++ {
		m := &model{make([]byte, 30*64)}
		c, _ := m.append(sample(n, 1))
		if want := (6+n+2+63)/64 - 1; len(c) != want+1 || c[0].at != 2+want || c[want].at != 2 {
			t.Fatalf("the model of %d bytes: %v", n, c)
		}
		for k := range len(c) + 1 {
			f, l := fresh(t, 30)
			f.Fuse(k, 0)
			l.Append(sample(n, 1))
			if !bytes.Equal(f.Dump(), m.through(c, k, 0)) {
				t.Fatalf("%d bytes, %d writes: %x", n, k, f.Dump())
			}
			// The fuse is burnt just if there was a write behind the k-th.
			f.Write(29, sample(64, 1))
			if on := f.Pending() == 0; on != true {
				t.Fatalf("%d bytes: more than %d writes", n, len(c))
			}
		}
		f, l := fresh(t, 30)
		f.Fuse(len(c)+1, 0)
		l.Append(sample(n, 1))
		f.Write(29, sample(64, 1))
		if f.Pending() != 1 {
			t.Fatalf("%d bytes: more than %d writes", n, len(c))
		}
	}
}

func TestLo2Restart(t *testing.T) {
	for _, blocks := range []int{6, 7, 8, 11} {
		file := bytes.Repeat([]byte{0xee}, blocks*64)
		f := loaded(t, file)
		l := opened(t, f)
		wantLog(t, "no head", l, &model{file})
		for n := range 12 {
			var r [][]byte
			for i := range n {
				r = append(r, sample(1+(i*5+n)%9, n+i))
			}
			wantAct(t, act{true, r}, f, l)
			if n < 9 && l.Generation() != uint64(n+1) {
				t.Errorf("generation %d, want %d", l.Generation(), n+1)
			}
			wantLog(t, "opened again", opened(t, f), &model{f.Dump()})
			wantAct(t, act{records: [][]byte{sample(n+1, n)}}, f, l)
		}
	}
}

// TestLo2RestartSwappedHeads: the greater head stands where the other one belongs: it still counts.
func TestLo2RestartSwappedHeads(t *testing.T) {
	for _, h := range [][2]int64{{5, 4}, {5, -1}, {-1, 4}, {3, 3}, {2, 2}, {-1, -1}} {
		gen := uint64(max(h[0], h[1], 0))
		f := loaded(t, laid(6, h, gen, []byte("old")))
		l := opened(t, f)
		wantLog(t, "swapped", l, &model{f.Dump()})
		wantAct(t, act{true, [][]byte{[]byte("new")}}, f, l)
		wantLog(t, "opened again", opened(t, f), &model{f.Dump()})
	}
}

// TestLo3Append: the power goes at each byte of each write of an append, behind records of some lengths, old bytes behind the end.
func TestLo3Append(t *testing.T) {
	for _, first := range []int{1, 40, 49, 50, 51, 52, 53, 56, 57, 58, 59, 100} {
		for _, n := range []int{1, 8, 57, 62, 63, 120} {
			file := bytes.Repeat([]byte{0x5a}, 10*64)
			copy(file, modelHead(2))
			copy(file[64:], modelHead(1))
			copy(file[128:], modelRecord(2, 0, sample(first, 1)))
			wantCrashes(t, act{records: [][]byte{sample(n, 2)}}, file, 1)
		}
	}
}

func TestLo3Restart(t *testing.T) {
	for _, blocks := range []int{6, 9} {
		for gen := range int64(4) {
			heads := [2]int64{gen, gen - 1}
			if gen%2 == 1 {
				heads = [2]int64{gen - 1, gen}
			}
			for n := range 4 {
				file := bytes.Repeat([]byte{0xa5}, blocks*64)
				copy(file, laid(blocks, heads, 0)[:128])
				m := &model{file}
				copy(file[m.start(uint64(gen)):], modelRecord(uint64(gen), 0, []byte("what was")))
				var r [][]byte
				for i := range n {
					r = append(r, sample(20+i, i))
				}
				wantCrashes(t, act{true, r}, file, 1)
			}
		}
	}
}

// TestLo3Story: long stories by chance: acts, the power going within some, the log opened again.
func TestLo3Story(t *testing.T) {
	for seed := range 200 {
		r := rand.New(rand.NewSource(int64(seed)))
		file := make([]byte, 64*(6+r.Intn(10)))
		if seed%2 == 0 {
			r.Read(file)
		}
		f := loaded(t, file)
		l := opened(t, f)
		for range 60 {
			a := chanceAct(r, len(file))
			if r.Intn(3) > 0 {
				wantAct(t, a, f, l)
				continue
			}
			m := &model{f.Dump()}
			c, want := a.model(m)
			k, tear := r.Intn(len(c)+2), r.Intn(65)
			f.Fuse(k, tear)
			if e := a.do(l); e != want {
				t.Fatalf("story %d: %v = error %d, want %d", seed, a, e, want)
			}
			f.Crash(0, 0)
			m.bytes = m.through(c, k, tear)
			if !bytes.Equal(f.Dump(), m.bytes) {
				t.Fatalf("story %d: %v, fuse (%d, %d)", seed, a, k, tear)
			}
			l = opened(t, f)
			wantLog(t, "behind a crash", l, m)
			wantRead(t, "behind a crash", m.bytes)
		}
	}
}

func chanceAct(r *rand.Rand, size int) act {
	record := func() []byte {
		b := make([]byte, r.Intn(size/8+1))
		r.Read(b)
		return b
	}
	if r.Intn(4) > 0 {
		return act{records: [][]byte{record()}}
	}
	a := act{restart: true}
	for range r.Intn(4) {
		a.records = append(a.records, append(record(), byte(r.Intn(256))))
	}
	return a
}

// TestLo3Large: crashes within acts on a full file.
func TestLo3Large(t *testing.T) {
	file := make([]byte, 4096*64)
	a := act{records: [][]byte{sample(65535, 1)}}
	m := &model{file}
	c, _ := a.model(m)
	for _, k := range []int{0, 1, len(c) - 1, len(c)} {
		f := loaded(t, file)
		l := opened(t, f)
		f.Fuse(k, 33)
		a.do(l)
		f.Crash(0, 0)
		if !bytes.Equal(f.Dump(), m.through(c, k, 33)) {
			t.Errorf("fuse %d: not the file", k)
		}
		if l = opened(t, f); l.Len() != k/len(c) {
			t.Errorf("fuse %d: %d records", k, l.Len())
		}
	}
	f := loaded(t, file)
	l := opened(t, f)
	var all [][]byte
	for i := range 18714 {
		b := []byte{byte(i)}
		if e := l.Append(b); e != api.OK {
			t.Fatalf("Append %d: error %d", i, e)
		}
		all = append(all, b)
	}
	wantRecords(t, "many", l, all)
	wantRecords(t, "many", opened(t, f), all)
	if l.Room() != 2047*64-18714*7-6 {
		t.Errorf("many: room %d", l.Room())
	}
	if e := l.Restart(all); e != api.OK {
		t.Errorf("Restart of many = error %d", e)
	}
	wantRecords(t, "many", opened(t, f), all)
	if e := l.Restart(slices.Repeat(all, 2)); e != api.ErrFull {
		t.Errorf("Restart of too many = error %d", e)
	}
}

func TestLo3NotGiven(t *testing.T) {
	f, l := fresh(t, 8)
	l.Append([]byte("a"))
	want := f.Dump()
	other := *l
	for name, g := range map[string]*Log{"nil": nil, "the zero one": {}, "a copy": &other} {
		for range 2 {
			if g.Len() != 0 || g.Room() != 0 || g.Generation() != 0 {
				t.Errorf("%s: %d records, room %d, generation %d", name, g.Len(), g.Room(), g.Generation())
			}
			for _, i := range []int{-1, 0, 1, math.MaxInt, math.MinInt} {
				if b, ok := g.Get(i); ok || len(b) != 0 {
					t.Errorf("%s: Get = %x, %v", name, b, ok)
				}
			}
			for _, b := range [][]byte{nil, {1}, make([]byte, 65536)} {
				if e := g.Append(b); e != api.ErrArg {
					t.Errorf("%s: Append = error %d, want ErrArg", name, e)
				}
				if e := g.Restart([][]byte{b}); e != api.ErrArg {
					t.Errorf("%s: Restart = error %d, want ErrArg", name, e)
				}
			}
			if e := g.Restart(nil); e != api.ErrArg {
				t.Errorf("%s: Restart = error %d, want ErrArg", name, e)
			}
		}
	}
	if !bytes.Equal(f.Dump(), want) || l.Len() != 1 || l.Generation() != 0 {
		t.Error("a log that Open did not give has turned another")
	}
}

// room is all bytes of b, those behind its end too.
func room(b []byte) []byte { return b[:cap(b)] }

// apart: a and b share no memory.
func apart(a, b []byte) bool {
	if cap(a) == 0 || cap(b) == 0 {
		return true
	}
	i, j := uintptr(unsafe.Pointer(unsafe.SliceData(a))), uintptr(unsafe.Pointer(unsafe.SliceData(b)))
	return i+uintptr(cap(a)) <= j || j+uintptr(cap(b)) <= i
}

func TestR3Arguments(t *testing.T) {
	store := bytes.Repeat([]byte{0xee}, 1000)
	before := slices.Clone(store)
	f, l := fresh(t, 30)
	Sum(store[:500])
	l.Append(store[:500])
	l.Append(store[100:107])
	l.Append(store[:999])
	if !bytes.Equal(store, before) {
		t.Fatal("an argument was changed")
	}
	lists := [][]byte{store[:100], store[50:90], store[3:4]}
	wider := append(slices.Clone(lists), store[5:6], store[7:8])
	kept := slices.Clone(wider)
	if e := l.Restart(wider[:3]); e != api.OK {
		t.Fatalf("Restart = error %d", e)
	}
	if !bytes.Equal(store, before) {
		t.Fatal("an argument was changed")
	}
	for i := range wider {
		if unsafe.SliceData(wider[i]) != unsafe.SliceData(kept[i]) || len(wider[i]) != len(kept[i]) {
			t.Fatal("the list of records was changed")
		}
	}
	l.Append(store[:20])
	clear(store)
	clear(wider)
	e := byte(0xee)
	want := [][]byte{bytes.Repeat([]byte{e}, 100), bytes.Repeat([]byte{e}, 40), {e}, bytes.Repeat([]byte{e}, 20)}
	wantRecords(t, "kept", l, want)
	wantRecords(t, "kept", opened(t, f), want)
}

func TestR3Read(t *testing.T) {
	arg := append(laid(12, [2]int64{2, 1}, 2, sample(9, 1), sample(70, 2), sample(3, 3)), sample(100, 4)...)
	before := slices.Clone(arg)
	b := arg[:768]
	l, _, e := Read(b)
	k, _, _ := Read(b)
	if e != api.OK || len(l) != 3 {
		t.Fatalf("Read = %x, error %d", l, e)
	}
	all := append(slices.Concat(l, k), b)
	wantApart(t, all)
	for _, x := range all[:6] {
		for i := range room(x) {
			room(x)[i] = 0xdd
		}
	}
	if !bytes.Equal(arg, before) {
		t.Error("an argument was changed")
	}
}

func wantApart(t testing.TB, all [][]byte) {
	t.Helper()
	for i, a := range all {
		for j, b := range all {
			if i != j && !apart(a, b) {
				t.Fatalf("lists %d and %d share memory", i, j)
			}
		}
	}
}

func TestR3Answers(t *testing.T) {
	f, l := fresh(t, 20)
	var all [][]byte
	for i := range 4 {
		b := sample(5+i, i)
		l.Append(b)
		all = append(all, b)
	}
	turn := func(l *Log) {
		t.Helper()
		want := make([][]byte, l.Len())
		for i := range want {
			b, _ := l.Get(i)
			want[i] = slices.Clone(b)
			c, _ := l.Get(i)
			all = append(all, b, c)
		}
		wantApart(t, all)
		for _, b := range all {
			for i := range room(b) {
				room(b)[i] = 0xdd
			}
		}
		wantRecords(t, "answers turned", l, want)
		wantRecords(t, "answers turned", opened(t, f), want)
	}
	turn(l)
	turn(opened(t, f))
	r := [][]byte{sample(4, 1), sample(5, 2)}
	l.Restart(r)
	all = append(all, r...)
	turn(l)
}

// TestLo1TwoFiles: what is done to one log is done to no other's file.
func TestLo1TwoFiles(t *testing.T) {
	f, l := fresh(t, 6)
	g, m := fresh(t, 6)
	l.Append([]byte("one"))
	wantRecords(t, "the other", m, nil)
	m.Append([]byte("two"))
	m.Append([]byte("three"))
	m.Restart([][]byte{[]byte("four")})
	wantRecords(t, "the one", l, [][]byte{[]byte("one")})
	wantRecords(t, "the one", opened(t, f), [][]byte{[]byte("one")})
	wantRecords(t, "the other", opened(t, g), [][]byte{[]byte("four")})
}

// TestNothingIsKept: the same calls tell the same again.
func TestNothingIsKept(t *testing.T) {
	story := func() []byte {
		f, l := fresh(t, 9)
		l.Append(sample(9, 1))
		l.Restart([][]byte{sample(3, 2), sample(60, 4)})
		l.Append(sample(7, 3))
		Read(f.Dump())
		Sum(sample(99, 1))
		return f.Dump()
	}
	want := story()
	for range 20 {
		if !bytes.Equal(story(), want) {
			t.Fatal("the same calls leave another file")
		}
	}
}
