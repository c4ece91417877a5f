package sha

import (
	"bytes"
	"crypto/sha256"
	"encoding/hex"
	"slices"
	"strings"
	"testing"

	"lantern/api"
)

// nothing is the digest of no bytes.
const nothing = "e3b0c44298fc1c149afbf4c8996fb92427ae41e4649b934ca495991b7852b855"

// sample is n bytes, no two neighbours alike, each block unlike the last.
func sample(n int) []byte {
	b := make([]byte, n)
	for i := range b {
		b[i] = byte(i*7 + i/64*13 + 1)
	}
	return b
}

// edges are lengths at which a block, or the room for the count of bits in it, is just full.
func edges() []int {
	return []int{0, 1, 2, 54, 55, 56, 57, 62, 63, 64, 65, 66, 118, 119, 120, 121, 126, 127, 128, 129, 130, 183, 184, 191, 192, 193}
}

func hexOf(d [32]byte) string { return hex.EncodeToString(d[:]) }

func TestSh1OfKnown(t *testing.T) {
	cases := []struct{ name, s, want string }{
		{"no bytes", "", nothing},
		{"abc", "abc", "ba7816bf8f01cfea414140de5dae2223b00361a396177a9cb410ff61f20015ad"},
		{"448 bits", "abcdbcdecdefdefgefghfghighijhijkijkljklmklmnlmnomnopnopq", "248d6a61d20638b8e5c026930c3e6039a33ce45964ff2167f6ecedd419db06c1"},
		{"896 bits", "abcdefghbcdefghicdefghijdefghijkefghijklfghijklmghijklmnhijklmnoijklmnopjklmnopqklmnopqrlmnopqrsmnopqrstnopqrstu", "cf5b16a778af8380036ce59e7b0492370b249b11e8f07a51afac45037afee9d1"},
		{"one byte", "\xbd", "68325720aabd7c82f30f554b313d0570c95accbb7dc4b5aae11204c08ffe732b"},
		{"55 noughts", strings.Repeat("\x00", 55), "02779466cdec163811d078815c633f21901413081449002f24aa3e80f0b88ef7"},
		{"56 noughts", strings.Repeat("\x00", 56), "d4817aa5497628e7c77e6b606107042bbba3130888c5f47a375e6179be789fbb"},
		{"64 noughts", strings.Repeat("\x00", 64), "f5a5fd42d16a20302798ef6ed309979b43003d2320d9f0e8ea9831a92759fb4b"},
		{"a million times a", strings.Repeat("a", 1000000), "cdc76e5c9914fb9281a1c7e284d73e67f1809a48a497200e046d39ccc7112cd0"},
	}
	for _, c := range cases {
		if got := hexOf(Of([]byte(c.s))); got != c.want {
			t.Errorf("%s: Of = %s, want %s", c.name, got, c.want)
		}
	}
	if got := hexOf(Of(nil)); got != nothing {
		t.Errorf("Of nil = %s", got)
	}
	if got := hexOf(Of([]byte{})); got != nothing {
		t.Errorf("Of the empty list = %s", got)
	}
}

func TestSh1OfEveryLength(t *testing.T) {
	for n := range 700 {
		for _, b := range [][]byte{sample(n), make([]byte, n), bytes.Repeat([]byte{0xff}, n)} {
			if got, want := Of(b), sha256.Sum256(b); got != want {
				t.Errorf("Of %d bytes = %x, want %x", n, got, want)
			}
		}
	}
	for _, n := range []int{api.MaxBytes - 1, api.MaxBytes, api.MaxBytes + 1, 1 << 21} {
		if got, want := Of(sample(n)), sha256.Sum256(sample(n)); got != want {
			t.Errorf("Of %d bytes = %x, want %x", n, got, want)
		}
	}
}

// TestSh1ManyBits: from 2^29 bytes on, how many bits there are is more than four bytes tell.
func TestSh1ManyBits(t *testing.T) {
	if testing.Short() {
		t.Skip("it takes seconds")
	}
	const wanted = 1<<29 + 1
	piece := sample(1 << 20)
	h, other := New(), sha256.New()
	for h.Len() < wanted {
		b := piece[:min(len(piece), wanted-h.Len())]
		h.Write(b)
		other.Write(b)
	}
	sum := h.Sum()
	if want := other.Sum(nil); !bytes.Equal(sum[:], want) || h.Len() != wanted {
		t.Errorf("Sum = %x of %d bytes, want %x", sum, h.Len(), want)
	}
}

func TestSh1New(t *testing.T) {
	h := New()
	if h == nil {
		t.Fatal("New = nil")
	}
	if got := hexOf(h.Sum()); got != nothing || h.Len() != 0 {
		t.Errorf("Sum = %s, Len = %d", got, h.Len())
	}
	for range 3 {
		h.Write(nil)
		h.Write([]byte{})
	}
	if got := hexOf(h.Sum()); got != nothing || h.Len() != 0 {
		t.Errorf("behind empty pieces: Sum = %s, Len = %d", got, h.Len())
	}
}

// TestSh1GoesOn: Sum and Len turn nothing, however often and wherever they are asked.
func TestSh1GoesOn(t *testing.T) {
	all := sample(400)
	for _, size := range []int{1, 3, 55, 56, 63, 64, 65} {
		h, taken := New(), 0
		for piece := range slices.Chunk(all, size) {
			h.Write(piece)
			taken += len(piece)
			want := sha256.Sum256(all[:taken])
			for range 3 {
				if got := h.Sum(); got != want || h.Len() != taken {
					t.Errorf("pieces of %d: Sum = %x of %d bytes, want %x of %d", size, got, h.Len(), want, taken)
				}
			}
		}
	}
}

func TestSh1Apart(t *testing.T) {
	a, b := New(), New()
	for i := range 200 {
		a.Write([]byte{byte(i)})
		b.Write([]byte{byte(i), byte(i + 1)})
	}
	other := New()
	if got := hexOf(other.Sum()); got != nothing || other.Len() != 0 {
		t.Errorf("a new one = %s of %d bytes", got, other.Len())
	}
	var ones, twos []byte
	for i := range 200 {
		ones = append(ones, byte(i))
		twos = append(twos, byte(i), byte(i+1))
	}
	if a.Sum() != sha256.Sum256(ones) || a.Len() != 200 {
		t.Error("the first has taken what it was not given")
	}
	if b.Sum() != sha256.Sum256(twos) || b.Len() != 400 {
		t.Error("the second has taken what it was not given")
	}
}

func TestSh1NotByNew(t *testing.T) {
	for name, h := range map[string]*Hash{"nil": nil, "the zero one": {}} {
		for _, n := range edges() {
			h.Write(sample(n))
			if got := hexOf(h.Sum()); got != nothing {
				t.Errorf("%s: Sum behind %d bytes = %s", name, n, got)
			}
			if h.Len() != 0 {
				t.Errorf("%s: Len behind %d bytes = %d", name, n, h.Len())
			}
		}
	}
	var zero Hash
	zero.Sum()
	if zero != (Hash{}) {
		t.Error("the zero one was turned")
	}
}

func TestSh2Hex(t *testing.T) {
	cases := []struct {
		b    []byte
		want string
	}{
		{nil, ""},
		{[]byte{}, ""},
		{[]byte{0}, "00"},
		{[]byte{0x09, 0x0a, 0x90, 0xa0}, "090a90a0"},
		{[]byte{0xff, 0xab, 0xcd, 0xef}, "ffabcdef"},
		{[]byte("\x01\x23\x45\x67\x89"), "0123456789"},
	}
	for _, c := range cases {
		if got := Hex(c.b); got != c.want {
			t.Errorf("Hex(%v) = %q, want %q", c.b, got, c.want)
		}
	}
	for i := range 256 {
		b := []byte{byte(i)}
		if got, want := Hex(b), hex.EncodeToString(b); got != want {
			t.Errorf("Hex(%v) = %q, want %q", b, got, want)
		}
	}
}

func TestSh2Unhex(t *testing.T) {
	cases := []struct {
		s    string
		want []byte
	}{
		{"", nil},
		{"00", []byte{0}},
		{"0aFF", []byte{0x0a, 0xff}},
		{"abcdef", []byte{0xab, 0xcd, 0xef}},
		{"ABCDEF", []byte{0xab, 0xcd, 0xef}},
		{"aBCdEf", []byte{0xab, 0xcd, 0xef}},
		{"0123456789", []byte{0x01, 0x23, 0x45, 0x67, 0x89}},
		{"7f80", []byte{0x7f, 0x80}},
	}
	for _, c := range cases {
		if got, e := Unhex(c.s); e != api.OK || !bytes.Equal(got, c.want) {
			t.Errorf("Unhex(%q) = %v, error %d, want %v", c.s, got, e, c.want)
		}
	}
}

func TestSh2UnhexRefused(t *testing.T) {
	refused := []string{
		"0", "a", "F", "000", "0aF", "abcde", // an odd count
		"g0", "0g", "G0", "0G", "zz", "0x", "0x0a", "x0", "00zz", "zz00", "000g", "0000g0",
		"/0", "0:", "@0", "0`", // neighbours of digits
		" 00", "00 ", "0 ", " 0", "0 0a", "00\n", "0\n", "\t0", "00\x00", "0\x00", "\x000",
		"+1", "-1", "1_", "_1", "0.", "1e+2",
		"é", "\u0660\u0660", "\uff10", "\uff10\uff11", "\xff\xff", "0\xb0", "\xe10",
		"ba7816bf 8f01cfea",
	}
	for _, s := range refused {
		if got, e := Unhex(s); e != api.ErrText || len(got) != 0 {
			t.Errorf("Unhex(%q) = %v, error %d, want ErrText", s, got, e)
		}
	}
}

func TestSh2UnhexEveryPair(t *testing.T) {
	for i := range 1 << 16 {
		s := string([]byte{byte(i >> 8), byte(i)})
		want, err := hex.DecodeString(s)
		got, e := Unhex(s)
		if err == nil && (e != api.OK || !bytes.Equal(got, want)) {
			t.Fatalf("Unhex(%q) = %v, error %d, want %v", s, got, e, want)
		}
		if err != nil && (e != api.ErrText || len(got) != 0) {
			t.Fatalf("Unhex(%q) = %v, error %d, want ErrText", s, got, e)
		}
	}
}

func TestSh3CutOnce(t *testing.T) {
	for _, n := range edges() {
		b := sample(n)
		want := Of(b)
		for cut := range n + 1 {
			h := New()
			h.Write(b[:cut])
			h.Write(b[cut:])
			if got := h.Sum(); got != want || h.Len() != n {
				t.Errorf("%d bytes, cut at %d: %x of %d bytes, want %x", n, cut, got, h.Len(), want)
			}
		}
	}
}

func TestSh3CutTwice(t *testing.T) {
	b := sample(131)
	want := Of(b)
	for one := range len(b) + 1 {
		for two := one; two <= len(b); two++ {
			h := New()
			for _, piece := range [][]byte{b[:one], b[one:two], b[two:]} {
				h.Write(piece)
			}
			if h.Sum() != want || h.Len() != len(b) {
				t.Fatalf("cut at %d and %d: %x of %d bytes, want %x", one, two, h.Sum(), h.Len(), want)
			}
		}
	}
}

func TestSh3PiecesOfOneSize(t *testing.T) {
	b := sample(1000)
	want := Of(b)
	for size := 1; size <= 200; size++ {
		h := New()
		for piece := range slices.Chunk(b, size) {
			h.Write(nil)
			h.Write(piece)
			h.Write(piece[:0])
		}
		if got := h.Sum(); got != want || h.Len() != len(b) {
			t.Errorf("pieces of %d: %x of %d bytes, want %x", size, got, h.Len(), want)
		}
	}
}

func TestSh3UnhexOfHex(t *testing.T) {
	for n := range 300 {
		b := sample(n)
		for _, s := range []string{Hex(b), strings.ToUpper(Hex(b))} {
			if got, e := Unhex(s); e != api.OK || !bytes.Equal(got, b) {
				t.Errorf("Unhex(%q) = %v, error %d, want %v", s, got, e, b)
			}
		}
	}
}

// TestR3Arguments: what is handed in isn't changed and isn't kept, nor is what lies behind its end.
func TestR3Arguments(t *testing.T) {
	for _, n := range edges() {
		b := sample(n + 100)
		kept := slices.Clone(b)
		Of(b[:n])
		Hex(b[:n])
		h := New()
		h.Write(b[:n])
		want := h.Sum()
		if !bytes.Equal(b, kept) {
			t.Fatalf("%d bytes: the argument was changed", n)
		}
		clear(b)
		if h.Sum() != want || want != sha256.Sum256(kept[:n]) {
			t.Errorf("%d bytes: what was taken hangs on the argument", n)
		}
	}
}

// TestR3Answers: no answer shares memory with another one or with what is kept, its spare room neither.
func TestR3Answers(t *testing.T) {
	one, _ := Unhex("00010203")
	two, _ := Unhex("00010203")
	spoil(one)
	if !bytes.Equal(two, []byte{0, 1, 2, 3}) {
		t.Errorf("an answer was turned by another one: %v", two)
	}
	h := New()
	h.Write([]byte("abc"))
	sum := h.Sum()
	spoil(sum[:])
	if h.Sum() != Of([]byte("abc")) {
		t.Error("what is kept was turned by an answer")
	}
}

func spoil(b []byte) {
	b = b[:cap(b)]
	for i := range b {
		b[i] = 0xee
	}
}
