package block

import (
	"bytes"
	"math"
	"math/rand"
	"slices"
	"testing"
	"unsafe"

	"lantern/api"
)

// model is a file told by its whole story: what lasts, and the writes since, each time gone through anew.
type model struct {
	base   []byte
	writes []step
	armed  bool
	left   int
	torn   int
	dark   bool
}

type step struct {
	at int
	b  string
}

func (m *model) bytes(n int) []byte {
	b := slices.Clone(m.base)
	for _, w := range m.writes[:n] {
		copy(b[w.at*64:], w.b)
	}
	return b
}

func (m *model) dump() []byte { return m.bytes(len(m.writes)) }

func (m *model) sync() {
	m.base = m.dump()
	m.writes = nil
}

func (m *model) cut(k, t int) {
	if k < 0 {
		k = 0
	}
	if k >= len(m.writes) {
		m.sync()
		return
	}
	b := m.bytes(k)
	next := m.writes[k]
	for i := 0; i < 64 && i < t; i++ {
		b[next.at*64+i] = next.b[i]
	}
	m.base, m.writes = b, nil
}

func (m *model) crash(k, t int) {
	m.cut(k, t)
	m.dark, m.armed = false, false
}

func (m *model) burn(k, t int) {
	if m.dark {
		return
	}
	m.armed, m.left, m.torn = true, k, t
}

func (m *model) write(i int, b []byte) api.Errno {
	switch {
	case i < 0 || i*64 >= len(m.base):
		return api.ErrNone
	case len(b) != 64:
		return api.ErrArg
	case m.dark:
		return api.OK
	}
	m.writes = append(m.writes, step{i, string(b)})
	if m.armed && m.left <= 0 {
		m.cut(len(m.writes)-1, m.torn)
		m.dark, m.armed = true, false
	}
	m.left--
	return api.OK
}

func of(c byte) []byte { return bytes.Repeat([]byte{c}, 64) }

// torn is t bytes of c, and d behind them.
func torn(t int, c, d byte) []byte { return append(bytes.Repeat([]byte{c}, t), of(d)[t:]...) }

func made(t testing.TB, n int) *File {
	t.Helper()
	f, e := New(n)
	if e != api.OK || f == nil {
		t.Fatalf("New(%d) = %v, error %d", n, f, e)
	}
	return f
}

func put(t testing.TB, f *File, i int, b []byte) {
	t.Helper()
	if e := f.Write(i, b); e != api.OK {
		t.Fatalf("Write(%d) = error %d", i, e)
	}
}

func wantBlock(t testing.TB, name string, f *File, i int, want []byte) {
	t.Helper()
	if b, e := f.Read(i); e != api.OK || !bytes.Equal(b, want) {
		t.Fatalf("%s: block %d = %v, error %d, want %v", name, i, b, e, want)
	}
}

func wantPending(t testing.TB, name string, f *File, want int) {
	t.Helper()
	if n := f.Pending(); n != want {
		t.Fatalf("%s: Pending = %d, want %d", name, n, want)
	}
}

func TestBl1New(t *testing.T) {
	for _, n := range []int{math.MinInt, -4096, -1, 0, 4097, 4096 * 64, 1 << 32, 1<<32 + 1, math.MaxInt} {
		if f, e := New(n); f != nil || e != api.ErrArg {
			t.Errorf("New(%d) = %v, error %d, want ErrArg", n, f, e)
		}
	}
	for _, n := range []int{1, 2, 3, 63, 64, 65, 4095, 4096} {
		f := made(t, n)
		if f.Blocks() != n || f.Pending() != 0 || !bytes.Equal(f.Dump(), make([]byte, n*64)) {
			t.Errorf("New(%d): %d blocks, %d pending, %d bytes", n, f.Blocks(), f.Pending(), len(f.Dump()))
		}
		for _, i := range []int{0, n / 2, n - 1} {
			wantBlock(t, "a new one", f, i, of(0))
		}
		f.Crash(0, 0)
		if !bytes.Equal(f.Dump(), make([]byte, n*64)) {
			t.Errorf("New(%d): not noughts behind a crash", n)
		}
	}
}

func TestBl1Load(t *testing.T) {
	for _, n := range []int{0, 1, 2, 63, 65, 127, 129, 4096*64 - 1, 4096*64 + 1, 4096*64 + 63, 4097 * 64, 8192 * 64} {
		if f, e := Load(make([]byte, n)); f != nil || e != api.ErrArg {
			t.Errorf("Load of %d bytes = %v, error %d, want ErrArg", n, f, e)
		}
	}
	if f, e := Load(nil); f != nil || e != api.ErrArg {
		t.Errorf("Load of nil = %v, error %d, want ErrArg", f, e)
	}
	for _, n := range []int{1, 2, 3, 4095, 4096} {
		b := make([]byte, n*64)
		rand.New(rand.NewSource(int64(n))).Read(b)
		f, e := Load(b)
		if e != api.OK || f.Blocks() != n || f.Pending() != 0 || !bytes.Equal(f.Dump(), b) {
			t.Fatalf("Load of %d blocks: error %d", n, e)
		}
		wantBlock(t, "loaded", f, n-1, b[n*64-64:])
		wantBlock(t, "loaded", f, 0, b[:64])
		put(t, f, n-1, of(1))
		put(t, f, 0, of(2))
		f.Crash(0, 0)
		if !bytes.Equal(f.Dump(), b) {
			t.Errorf("Load of %d blocks: the bytes do not last", n)
		}
	}
}

func TestBl1ReadWrite(t *testing.T) {
	f := made(t, 3)
	put(t, f, 1, of(1))
	want := f.Dump()
	for _, i := range []int{math.MinInt, -64, -1, 3, 4, 64, 4096, 1 << 32, 1<<32 + 1, math.MaxInt} {
		if b, e := f.Read(i); len(b) != 0 || e != api.ErrNone {
			t.Errorf("Read(%d) = %v, error %d, want ErrNone", i, b, e)
		}
		for _, b := range [][]byte{nil, {}, of(9), make([]byte, 63), make([]byte, 65)} {
			if e := f.Write(i, b); e != api.ErrNone {
				t.Errorf("Write(%d) of %d bytes = error %d, want ErrNone", i, len(b), e)
			}
		}
	}
	for _, n := range []int{0, 1, 32, 63, 65, 127, 128, 192, 4096} {
		for i := range 3 {
			if e := f.Write(i, bytes.Repeat([]byte{7}, n)); e != api.ErrArg {
				t.Errorf("Write(%d) of %d bytes = error %d, want ErrArg", i, n, e)
			}
		}
	}
	if !bytes.Equal(f.Dump(), want) || f.Pending() != 1 {
		t.Error("a refused write has turned the file")
	}
	for i := range 3 {
		put(t, f, i, sample(i))
		wantBlock(t, "written", f, i, sample(i))
		wantPending(t, "written", f, i+2)
	}
	if got := slices.Concat(sample(0), sample(1), sample(2)); !bytes.Equal(f.Dump(), got) {
		t.Errorf("Dump = %v, want %v", f.Dump(), got)
	}
}

// sample is a block of bytes that are all unlike, and unlike another i's.
func sample(i int) []byte {
	b := make([]byte, 64)
	for j := range b {
		b[j] = byte(i*64 + j + 1)
	}
	return b
}

func TestBl1SyncPending(t *testing.T) {
	f := made(t, 2)
	for n := range 200 {
		wantPending(t, "ahead", f, n)
		put(t, f, n%2, of(byte(n)))
	}
	put(t, f, 1, of(199))
	wantPending(t, "the same bytes again", f, 201)
	f.Sync()
	wantPending(t, "behind Sync", f, 0)
	f.Sync()
	want := slices.Concat(of(198), of(199))
	f.Crash(0, 0)
	if !bytes.Equal(f.Dump(), want) {
		t.Error("what was synced is gone")
	}
	put(t, f, 0, of(1))
	wantPending(t, "behind a crash", f, 1)
}

func TestBl2Example(t *testing.T) {
	f := made(t, 1)
	put(t, f, 0, of(1))
	put(t, f, 0, of(2))
	f.Crash(1, 3)
	wantBlock(t, "the example", f, 0, torn(3, 2, 1))
	wantPending(t, "the example", f, 0)
}

// TestBl2Crash: of five writes to two blocks, each count of those that last, each of bytes of the next one.
func TestBl2Crash(t *testing.T) {
	at := []int{0, 1, 0, 0, 1}
	for k := -2; k <= 7; k++ {
		for tear := -2; tear <= 67; tear++ {
			f := made(t, 2)
			for i, a := range at {
				put(t, f, a, of(byte(i+1)))
			}
			f.Crash(k, tear)
			want := [2][]byte{of(0), of(0)}
			for i := 0; i < k && i < 5; i++ {
				want[at[i]] = of(byte(i + 1))
			}
			if next := max(k, 0); next < 5 {
				copy(want[at[next]], of(byte(next + 1))[:min(max(tear, 0), 64)])
			}
			if !bytes.Equal(f.Dump(), slices.Concat(want[0], want[1])) {
				t.Fatalf("Crash(%d, %d): %v", k, tear, f.Dump())
			}
			wantPending(t, "behind a crash", f, 0)
			f.Crash(0, 0)
			if !bytes.Equal(f.Dump(), slices.Concat(want[0], want[1])) {
				t.Fatalf("Crash(%d, %d): a second one undoes what the first one left", k, tear)
			}
		}
	}
}

func TestBl2CrashFar(t *testing.T) {
	for _, far := range []int{math.MinInt, math.MinInt + 1, -1 << 32, 1 << 32, math.MaxInt - 1, math.MaxInt} {
		f := made(t, 1)
		put(t, f, 0, of(1))
		put(t, f, 0, of(2))
		f.Crash(far, 3)
		want := torn(3, 1, 0)
		if far > 0 {
			want = of(2)
		}
		wantBlock(t, "far k", f, 0, want)
		put(t, f, 0, of(7))
		f.Crash(0, far)
		if far > 0 {
			want = of(7)
		}
		wantBlock(t, "far t", f, 0, want)
	}
}

// TestBl2Fuse: a fuse behind two pending writes: all of what was ahead of the one it is for lasts.
func TestBl2Fuse(t *testing.T) {
	for k := -2; k <= 4; k++ {
		for tear := -2; tear <= 67; tear++ {
			f := made(t, 3)
			put(t, f, 2, of(100))
			put(t, f, 0, of(101))
			f.Fuse(k, tear)
			wantPending(t, "a fuse alone", f, 2)
			want := [3][]byte{of(101), of(0), of(100)}
			for i := range 6 {
				put(t, f, i%2, of(byte(i+1)))
				if left := max(k, 0); i < left {
					want[i%2] = of(byte(i + 1))
					wantPending(t, "ahead of the end", f, 3+i)
				} else {
					wantPending(t, "the power is off", f, 0)
					if i == left {
						copy(want[i%2], of(byte(i + 1))[:min(max(tear, 0), 64)])
					}
				}
				if !bytes.Equal(f.Dump(), slices.Concat(want[0], want[1], want[2])) {
					t.Fatalf("Fuse(%d, %d), write %d: %v", k, tear, i, f.Dump())
				}
			}
			f.Sync()
			f.Crash(0, 0)
			if !bytes.Equal(f.Dump(), slices.Concat(want[0], want[1], want[2])) {
				t.Fatalf("Fuse(%d, %d), crash: %v", k, tear, f.Dump())
			}
		}
	}
}

func TestBl2FuseFar(t *testing.T) {
	f := made(t, 1)
	for _, far := range []int{math.MaxInt, 1 << 32, 1<<32 + 1} {
		f.Fuse(far, 0)
		put(t, f, 0, of(1))
		put(t, f, 0, of(2))
		wantPending(t, "a far fuse", f, 2)
		wantBlock(t, "a far fuse", f, 0, of(2))
		f.Crash(0, 0)
	}
	for _, far := range []int{math.MinInt, -1 << 32, -1} {
		f.Fuse(far, far)
		put(t, f, 0, of(1))
		wantPending(t, "a fuse of none", f, 0)
		wantBlock(t, "a fuse of none", f, 0, of(0))
		f.Crash(0, 0)
	}
	f.Fuse(0, math.MaxInt)
	put(t, f, 0, of(5))
	wantBlock(t, "all of the write", f, 0, of(5))
	f.Crash(0, 0)
	wantBlock(t, "all of the write", f, 0, of(5))
}

// TestBl2Off: while the power is off Write and Sync tell what they tell, and do nothing; a crash brings it back, and does nothing else.
func TestBl2Off(t *testing.T) {
	f := made(t, 2)
	f.Fuse(0, 10)
	put(t, f, 0, of(1))
	want := slices.Concat(torn(10, 1, 0), of(0))
	for range 3 {
		put(t, f, 0, of(2))
		put(t, f, 1, of(3))
		if e := f.Write(2, of(1)); e != api.ErrNone {
			t.Errorf("Write(2) = error %d, want ErrNone", e)
		}
		if e := f.Write(-1, nil); e != api.ErrNone {
			t.Errorf("Write(-1) = error %d, want ErrNone", e)
		}
		if e := f.Write(1, of(1)[:63]); e != api.ErrArg {
			t.Errorf("Write of 63 bytes = error %d, want ErrArg", e)
		}
		if b, e := f.Read(2); e != api.ErrNone || len(b) != 0 {
			t.Errorf("Read(2) = %v, error %d, want ErrNone", b, e)
		}
		wantPending(t, "off", f, 0)
		f.Sync()
		wantBlock(t, "off", f, 0, torn(10, 1, 0))
		if !bytes.Equal(f.Dump(), want) || f.Blocks() != 2 {
			t.Errorf("off: %v", f.Dump())
		}
	}
	f.Crash(1, 64)
	if !bytes.Equal(f.Dump(), want) {
		t.Errorf("behind the crash: %v", f.Dump())
	}
	put(t, f, 1, of(4))
	wantPending(t, "on again", f, 1)
	wantBlock(t, "on again", f, 1, of(4))
	f.Crash(0, 0)
	if !bytes.Equal(f.Dump(), want) {
		t.Errorf("a crash while the power is on: %v", f.Dump())
	}
}

// TestBl2FuseAway: a fuse takes another's place; a crash takes it away; one that is set while the power is off is none.
func TestBl2FuseAway(t *testing.T) {
	f := made(t, 1)
	f.Fuse(0, 1)
	f.Fuse(1, 2)
	put(t, f, 0, of(1))
	wantPending(t, "the second one", f, 1)
	put(t, f, 0, of(2))
	wantPending(t, "the second one", f, 0)
	wantBlock(t, "the second one", f, 0, torn(2, 2, 1))
	f.Fuse(0, 3)
	put(t, f, 0, of(3))
	wantBlock(t, "off", f, 0, torn(2, 2, 1))
	f.Crash(0, 0)
	for n := range 5 {
		put(t, f, 0, of(4))
		wantPending(t, "no fuse is left", f, n+1)
	}
	f.Fuse(1, 0)
	put(t, f, 0, of(5))
	f.Crash(99, 0)
	for n := range 5 {
		put(t, f, 0, of(6))
		wantPending(t, "the crash took it away", f, n+1)
	}
	f.Fuse(2, 0)
	f.Sync()
	put(t, f, 0, of(7))
	f.Sync()
	put(t, f, 0, of(8))
	wantPending(t, "Sync leaves it", f, 1)
	put(t, f, 0, of(9))
	wantPending(t, "Sync leaves it", f, 0)
	wantBlock(t, "Sync leaves it", f, 0, of(8))
	f.Crash(0, 0)
	f.Fuse(5, 0)
	f.Fuse(-1, 0)
	put(t, f, 0, of(9))
	wantBlock(t, "a shorter one", f, 0, of(8))
}

// TestBl2RefusedWrites: what was refused is no write, and burns no fuse.
func TestBl2RefusedWrites(t *testing.T) {
	f := made(t, 1)
	f.Fuse(1, 64)
	for range 4 {
		f.Write(1, of(1))
		f.Write(-1, of(1))
		f.Write(0, nil)
		f.Write(0, make([]byte, 65))
		f.Read(0)
		f.Dump()
		f.Sync()
		f.Pending()
	}
	put(t, f, 0, of(1))
	wantPending(t, "one more", f, 1)
	put(t, f, 0, of(2))
	wantPending(t, "the one it is for", f, 0)
}

// acts are what a story is made of: small, so that all stories of some length can be told.
func acts() []func(f *File, m *model) {
	doWrite := func(i int, c byte) func(f *File, m *model) {
		return func(f *File, m *model) { f.Write(i, of(c)); m.write(i, of(c)) }
	}
	doCrash := func(k, t int) func(f *File, m *model) {
		return func(f *File, m *model) { f.Crash(k, t); m.crash(k, t) }
	}
	doFuse := func(k, t int) func(f *File, m *model) {
		return func(f *File, m *model) { f.Fuse(k, t); m.burn(k, t) }
	}
	return []func(f *File, m *model){
		doWrite(0, 1), doWrite(0, 2), doWrite(1, 3),
		func(f *File, m *model) { f.Sync(); m.sync() },
		doCrash(0, 0), doCrash(1, 5), doCrash(2, 64),
		doFuse(0, 7), doFuse(1, 64), doFuse(2, -1),
	}
}

// TestBl2Stories: all stories of five acts.
func TestBl2Stories(t *testing.T) {
	all := acts()
	var count = 1
	for range 5 {
		count *= len(all)
	}
	for n := range count {
		f, m := made(t, 2), &model{base: make([]byte, 128)}
		for rest, i := n, 0; i < 5; i++ {
			all[rest%len(all)](f, m)
			rest /= len(all)
			same(t, n, f, m)
		}
	}
}

func same(t *testing.T, n int, f *File, m *model) {
	t.Helper()
	if !bytes.Equal(f.Dump(), m.dump()) || f.Pending() != len(m.writes) {
		t.Fatalf("story %d: %d pending, %v, want %d, %v", n, f.Pending(), f.Dump(), len(m.writes), m.dump())
	}
}

// TestBl3Chance: long stories by chance, of files small and great.
func TestBl3Chance(t *testing.T) {
	for seed := range 300 {
		r := rand.New(rand.NewSource(int64(seed)))
		start := make([]byte, 64*(1+r.Intn(5)))
		r.Read(start)
		f, e := Load(start)
		if e != api.OK {
			t.Fatal(e)
		}
		m := &model{base: start}
		for range 200 {
			chanceAct(t, r, f, m)
			same(t, seed, f, m)
			i := r.Intn(len(start) / 64)
			wantBlock(t, "by chance", f, i, m.dump()[i*64:i*64+64])
		}
	}
}

func chanceAct(t *testing.T, r *rand.Rand, f *File, m *model) {
	k, tear := r.Intn(12)-2, r.Intn(70)-3
	switch n := r.Intn(40); {
	case n < 30:
		i := r.Intn(len(m.base)/64+2) - 1
		b := make([]byte, 64)
		r.Read(b)
		if r.Intn(10) == 0 {
			b = b[:r.Intn(64)]
		}
		if e, want := f.Write(i, b), m.write(i, b); e != want {
			t.Fatalf("Write(%d) of %d bytes = error %d, want %d", i, len(b), e, want)
		}
	case n < 33:
		f.Sync()
		m.sync()
	case n < 36:
		f.Crash(k, tear)
		m.crash(k, tear)
	default:
		f.Fuse(k, tear)
		m.burn(k, tear)
	}
}

// TestBl3Synced: what was synced and not written since is there behind any crash.
func TestBl3Synced(t *testing.T) {
	for k := range 6 {
		for tear := range 65 {
			for _, fuse := range []bool{false, true} {
				f := made(t, 4)
				for i := range 4 {
					put(t, f, i, sample(i))
				}
				f.Sync()
				if fuse {
					f.Fuse(k, tear)
				}
				for i := range 5 {
					put(t, f, i%2, of(byte(i)))
				}
				f.Crash(k, tear)
				wantBlock(t, "synced", f, 2, sample(2))
				wantBlock(t, "synced", f, 3, sample(3))
			}
		}
	}
}

// TestBl3Apart: one file's writes, crashes and fuses are no other's.
func TestBl3Apart(t *testing.T) {
	b := sample(0)
	f, _ := Load(b)
	g, _ := Load(b)
	f.Fuse(0, 0)
	put(t, g, 0, of(1))
	wantPending(t, "the other", g, 1)
	wantBlock(t, "the one", f, 0, b)
	put(t, f, 0, of(2))
	put(t, g, 0, of(3))
	g.Sync()
	f.Crash(0, 0)
	wantBlock(t, "the one", f, 0, b)
	wantBlock(t, "the other", g, 0, of(3))
}

func TestBl2NotGiven(t *testing.T) {
	f := made(t, 2)
	put(t, f, 0, of(1))
	other := *f
	for name, g := range map[string]*File{"nil": nil, "the zero one": {}, "a copy": &other} {
		for range 2 {
			if g.Blocks() != 0 || g.Pending() != 0 || len(g.Dump()) != 0 {
				t.Errorf("%s: %d blocks, %d pending, %d bytes", name, g.Blocks(), g.Pending(), len(g.Dump()))
			}
			for _, i := range []int{-1, 0, 1, math.MaxInt, math.MinInt} {
				if b, e := g.Read(i); len(b) != 0 || e != api.ErrNone {
					t.Errorf("%s: Read = %v, error %d, want ErrNone", name, b, e)
				}
				for _, b := range [][]byte{nil, of(2)} {
					if e := g.Write(i, b); e != api.ErrNone {
						t.Errorf("%s: Write = error %d, want ErrNone", name, e)
					}
				}
			}
			g.Fuse(0, 3)
			g.Sync()
			g.Crash(1, 1)
			g.Fuse(-1, 3)
		}
	}
	wantPending(t, "what was copied", f, 1)
	put(t, f, 1, of(3))
	wantPending(t, "what was copied", f, 2)
	f.Crash(0, 0)
	if !bytes.Equal(f.Dump(), make([]byte, 128)) {
		t.Error("what was done to a copy has turned the file")
	}
}

// room is all bytes of b, those behind its end too.
func room(b []byte) []byte { return b[:cap(b)] }

// apart: a and b share no memory.
func apart(a, b []byte) bool {
	if cap(a) == 0 || cap(b) == 0 {
		return true
	}
	i, j := uintptr(unsafe.Pointer(unsafe.SliceData(a))), uintptr(unsafe.Pointer(unsafe.SliceData(b)))
	return i+uintptr(cap(a)) <= j || j+uintptr(cap(b)) <= i
}

func TestR3Arguments(t *testing.T) {
	store := bytes.Repeat([]byte{0xee}, 400)
	copy(store, slices.Concat(sample(0), sample(1)))
	before := slices.Clone(store)
	f, e := Load(store[:128])
	if e != api.OK {
		t.Fatal(e)
	}
	put(t, f, 0, store[64:128])
	put(t, f, 1, store[:64])
	f.Write(0, store[:63])
	f.Write(2, store[:64])
	if !bytes.Equal(store, before) {
		t.Error("an argument was changed")
	}
	clear(store)
	if !bytes.Equal(f.Dump(), slices.Concat(sample(1), sample(0))) {
		t.Error("a written argument was kept")
	}
	f.Crash(1, 5)
	if !bytes.Equal(f.Dump(), slices.Concat(sample(1), sample(0)[:5], sample(1)[5:])) {
		t.Error("a loaded argument was kept")
	}
}

func TestR3Answers(t *testing.T) {
	f := made(t, 3)
	arg := sample(1)
	put(t, f, 1, arg)
	var all [][]byte
	for range 3 {
		for i := range 3 {
			b, _ := f.Read(i)
			all = append(all, b)
		}
		all = append(all, f.Dump())
	}
	all = append(all, arg)
	for i, a := range all {
		for j, b := range all {
			if i != j && !apart(a, b) {
				t.Fatalf("answers %d and %d share memory", i, j)
			}
		}
	}
	for _, a := range all {
		for i := range room(a) {
			room(a)[i] = 0xdd
		}
	}
	want := slices.Concat(of(0), sample(1), of(0))
	if !bytes.Equal(f.Dump(), want) {
		t.Error("an answer shares memory with what is kept")
	}
	f.Sync()
	f.Crash(0, 0)
	if !bytes.Equal(f.Dump(), want) {
		t.Error("an answer shares memory with what is kept")
	}
}

// TestR1Large: a full file, and more writes than a file has blocks, without a Sync.
func TestR1Large(t *testing.T) {
	f := made(t, 4096)
	const many = 300000
	for i := range many {
		b := of(byte(i))
		b[0], b[1], b[2] = byte(i>>16), byte(i>>8), byte(i)
		put(t, f, i%4096, b)
	}
	wantPending(t, "many", f, many)
	f.Crash(many-4096, 3)
	for i := range 4096 {
		last := many - 4096 - 1
		last -= ((last-i)%4096 + 4096) % 4096
		want := of(byte(last))
		want[0], want[1], want[2] = byte(last>>16), byte(last>>8), byte(last)
		if next := many - 4096; next%4096 == i {
			want[0], want[1], want[2] = byte(next>>16), byte(next>>8), byte(next)
		}
		wantBlock(t, "many", f, i, want)
	}
	for i := range many {
		put(t, f, i%4096, of(byte(i)))
		f.Sync()
	}
	wantPending(t, "synced", f, 0)
	for range many {
		f.Crash(0, 0)
	}
}

// TestNothingIsKept: behind Sync, a crash and a blown fuse no write is kept any more.
func TestNothingIsKept(t *testing.T) {
	f := made(t, 1)
	ends := []func(){
		f.Sync,
		func() { f.Crash(3, 3) },
		func() { f.Fuse(0, 1); f.Write(0, of(1)) },
		func() { f.Crash(0, 0) },
	}
	for i, end := range ends {
		for range 1000 {
			f.Write(0, of(1))
		}
		end()
		if cap(f.writes) != 0 {
			t.Errorf("end %d: room for %d writes is kept", i, cap(f.writes))
		}
	}
}
