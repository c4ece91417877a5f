package seal

import (
	"bytes"
	"crypto/hmac"
	"crypto/sha256"
	"encoding/binary"
	"encoding/hex"
	"math"
	"slices"
	"strings"
	"testing"

	"lantern/api"
)

// sample is n bytes, no two neighbours alike, each piece of 32 unlike the last.
func sample(n int) []byte {
	b := make([]byte, n)
	for i := range b {
		b[i] = byte(i*7 + i/32*13 + 1)
	}
	return b
}

func tagged(key, b []byte) []byte {
	h := hmac.New(sha256.New, key)
	h.Write(b)
	return h.Sum(nil)
}

// wanted is a sealed text, made the long way round, whatever its lengths.
func wanted(key []byte, nonce [16]byte, label string, b []byte) []byte {
	streamKey := tagged(key, []byte("stream\x00\x01"))
	var stream []byte
	for i := uint32(0); len(stream) < len(b); i++ {
		stream = append(stream, tagged(streamKey, binary.BigEndian.AppendUint32(nonce[:], i))...)
	}
	s := slices.Clone(nonce[:])
	for i := range b {
		s = append(s, b[i]^stream[i])
	}
	return signed(key, label, s)
}

// signed is a body with its tag behind it.
func signed(key []byte, label string, body []byte) []byte {
	message := binary.BigEndian.AppendUint16(nil, uint16(len(label)))
	message = append(message, label...)
	message = append(message, body...)
	tag := tagged(tagged(key, []byte("tag\x00\x01")), message)
	return slices.Concat(body, tag)
}

// sizes are lengths at which a piece of the stream, a block of a digest or the room for bytes is just full.
func sizes() []int {
	return []int{0, 1, 2, 5, 31, 32, 33, 63, 64, 65, 127, 128, 129, 1000, 4095, 4096}
}

func keys() [][]byte {
	return [][]byte{nil, {0}, []byte("k"), sample(32), sample(63), sample(64), sample(65), sample(200)}
}

func nonces() [][16]byte {
	return [][16]byte{{}, {1}, {15: 1}, [16]byte(sample(16)), [16]byte(bytes.Repeat([]byte{0xff}, 16))}
}

func labels() []string {
	return []string{
		"", "l", "cred/1/2", "stream", "tag", "\x00", "\x00\x01", "é", "\xff\xfe",
		strings.Repeat("l", 255), strings.Repeat("l", 256), string(sample(256)),
	}
}

// sealed is what Seal gives where it must not refuse.
func sealed(t *testing.T, key []byte, nonce [16]byte, label string, b []byte) []byte {
	t.Helper()
	s, e := Seal(key, nonce, label, b)
	if e != api.OK {
		t.Fatalf("Seal of %d bytes, a label of %d: error %d", len(b), len(label), e)
	}
	return s
}

// refused tells of an Open that does not tell the error, or tells bytes beside it.
func refused(t *testing.T, what string, key []byte, label string, s []byte, want api.Errno) {
	t.Helper()
	if b, e := Open(key, label, s); e != want || len(b) != 0 {
		t.Errorf("%s: Open = %d bytes, error %d, want error %d", what, len(b), e, want)
	}
}

// TestSe1SealKnown holds the bytes themselves, whatever makes the tags.
func TestSe1SealKnown(t *testing.T) {
	counted := make([]byte, 65)
	for i := range counted {
		counted[i] = byte(i)
	}
	cases := []struct {
		name  string
		key   []byte
		nonce [16]byte
		label string
		b     []byte
		want  string
	}{
		{"five bytes", []byte("k"), [16]byte{1}, "l", []byte("hello"),
			"01000000000000000000000000000000" + "59fdff4f3f" + "9aa2a4df2443be0fdae666e33a9800fcffb0dc531b703ed18efce4833d68c5a6"},
		{"nothing at all", nil, [16]byte{}, "", nil,
			"00000000000000000000000000000000" + "143896628a390b9773569fb931839a66b0f252ab26fe8424e5e5875fb25a0cbf"},
		{"three pieces", counted[:32], [16]byte(counted[:16]), "cred/1/2", counted,
			"000102030405060708090a0b0c0d0e0f" +
				"a5475afb30ddd2fbbb5f723651fe6fcccc2d361143ea78c520520e2761fd2264" +
				"969fa025a25f135c2ee73706adfbbc045427166cbd0e83370bcce084b0078e78" + "81" +
				"4735e9deaa65f88fe667e025225d81591904de72624235971d2df56f6fc5e678"},
	}
	for _, c := range cases {
		got := sealed(t, c.key, c.nonce, c.label, c.b)
		if s := hex.EncodeToString(got); s != c.want {
			t.Errorf("%s: Seal = %s, want %s", c.name, s, c.want)
		}
		if b, e := Open(c.key, c.label, got); e != api.OK || !bytes.Equal(b, c.b) {
			t.Errorf("%s: Open = %x, error %d", c.name, b, e)
		}
	}
}

// TestSe1SealKnownLargest is the most that can be sealed, by its digest.
func TestSe1SealKnownLargest(t *testing.T) {
	const want = "f4e1a2c07d2b3a9724ad359811671916c1649fad9cf43e3fc36dbc79071b097e"
	b := make([]byte, 4096)
	for i := range b {
		b[i] = byte(i % 251)
	}
	s := sealed(t, bytes.Repeat([]byte("a"), 65), [16]byte(bytes.Repeat([]byte{0xff}, 16)), strings.Repeat("x", 256), b)
	digest := sha256.Sum256(s)
	if got := hex.EncodeToString(digest[:]); len(s) != 4144 || got != want {
		t.Errorf("Seal = %d bytes, digest %s, want %s", len(s), got, want)
	}
}

func TestSe1SealAndOpen(t *testing.T) {
	for _, key := range keys() {
		for _, nonce := range nonces() {
			for _, label := range labels() {
				for _, n := range []int{0, 1, 31, 32, 33, 100} {
					checkBoth(t, key, nonce, label, sample(n))
				}
			}
		}
	}
	for _, n := range sizes() {
		for _, label := range labels() {
			checkBoth(t, []byte("k"), [16]byte{1}, label, sample(n))
			checkBoth(t, sample(65), [16]byte{}, label, make([]byte, n))
		}
	}
}

// checkBoth holds Seal and Open each against what is wanted, not against each other.
func checkBoth(t *testing.T, key []byte, nonce [16]byte, label string, b []byte) {
	t.Helper()
	want := wanted(key, nonce, label, b)
	if got, e := Seal(key, nonce, label, b); e != api.OK || !bytes.Equal(got, want) {
		t.Fatalf("Seal(%x, %x, %q, %d bytes) = %x, error %d, want %x", key, nonce, label, len(b), got, e, want)
	}
	if got, e := Open(key, label, want); e != api.OK || !bytes.Equal(got, b) {
		t.Fatalf("Open(%x, %q, %d bytes) = %x, error %d, want %x", key, label, len(want), got, e, b)
	}
}

func TestSe1SealRefused(t *testing.T) {
	cases := []struct{ label, b int }{
		{257, 0}, {257, 5}, {257, 4096}, {258, 5}, {512, 5}, {65536, 5}, {65537, 5},
		{0, 4097}, {5, 4097}, {256, 4097}, {0, 4144}, {0, 8192}, {0, 65536}, {0, 1 << 20}, {257, 4097}, {1 << 20, 1 << 20},
	}
	for _, c := range cases {
		if got, e := Seal([]byte("k"), [16]byte{1}, string(sample(c.label)), sample(c.b)); e != api.ErrLong || len(got) != 0 {
			t.Errorf("a label of %d bytes, %d bytes: Seal = %d bytes, error %d, want ErrLong", c.label, c.b, len(got), e)
		}
	}
	// Bytes of the label count, not its runes.
	if _, e := Seal(nil, [16]byte{}, strings.Repeat("é", 128), nil); e != api.OK {
		t.Errorf("a label of 128 runes: error %d", e)
	}
	if _, e := Seal(nil, [16]byte{}, strings.Repeat("é", 129), nil); e != api.ErrLong {
		t.Errorf("a label of 129 runes: error %d", e)
	}
}

// TestSe1OpenRefused: the tags are right as far as there is room for them, so that the lengths alone are at fault.
func TestSe1OpenRefused(t *testing.T) {
	key, nonce := []byte("k"), [16]byte{1}
	for n := range 48 {
		refused(t, "too short", key, "l", sample(n), api.ErrText)
		refused(t, "too short", nil, "", make([]byte, n), api.ErrText)
	}
	refused(t, "nil", key, "l", nil, api.ErrText)
	for body := range 16 {
		refused(t, "a nonce cut off", key, "l", signed(key, "l", sample(body)), api.ErrText)
	}
	refused(t, "48 bytes, no tag", key, "l", make([]byte, 48), api.ErrBad)
	refused(t, "4144 bytes, no tag", key, "l", make([]byte, 4144), api.ErrBad)
	for _, n := range []int{4097, 4098, 8192, 1 << 16} {
		refused(t, "too long", key, "l", wanted(key, nonce, "l", sample(n)), api.ErrLong)
		refused(t, "too long, no tag", key, "l", make([]byte, n+48), api.ErrLong)
	}
	for _, n := range []int{257, 258, 512, 1 << 16} {
		label := string(sample(n))
		refused(t, "a long label", key, label, wanted(key, nonce, label, []byte("hello")), api.ErrLong)
	}
}

// TestSe1OpenFirstError: of several faults the one that the chapter names first is told.
func TestSe1OpenFirstError(t *testing.T) {
	key, long := []byte("k"), strings.Repeat("l", 257)
	refused(t, "a long label, nothing sealed", key, long, nil, api.ErrLong)
	refused(t, "a long label, 47 bytes", key, long, make([]byte, 47), api.ErrLong)
	refused(t, "a long label, no tag", key, long, make([]byte, 48), api.ErrLong)
	refused(t, "a long label, 4145 bytes", key, long, make([]byte, 4145), api.ErrLong)
	refused(t, "47 bytes, no tag", key, "l", make([]byte, 47), api.ErrText)
	refused(t, "4145 bytes, no tag", key, "l", make([]byte, 4145), api.ErrLong)
}

func TestSe1Size(t *testing.T) {
	for n := range 4097 {
		if got, e := Size(n); got != n+48 || e != api.OK {
			t.Errorf("Size(%d) = %d, error %d", n, got, e)
		}
	}
	for _, n := range []int{-1, -2, -48, -4096, 4097, 4098, 4144, 1 << 16, 1 << 40, math.MaxInt, math.MinInt} {
		if got, e := Size(n); got != 0 || e != api.ErrLong {
			t.Errorf("Size(%d) = %d, error %d, want ErrLong", n, got, e)
		}
	}
	for _, n := range sizes() {
		if size, _ := Size(n); size != len(sealed(t, []byte("k"), [16]byte{}, "l", sample(n))) {
			t.Errorf("a sealed text of %d bytes has not %d", n, size)
		}
	}
}

func TestSe2OpenOfSeal(t *testing.T) {
	for n := range 4097 {
		if n > 300 && n < 4000 && n%97 != 0 {
			continue
		}
		b := sample(n)
		s := sealed(t, []byte("k"), [16]byte{byte(n), byte(n >> 8)}, "l", b)
		if got, e := Open([]byte("k"), "l", s); e != api.OK || !bytes.Equal(got, b) {
			t.Errorf("Open of %d bytes sealed = %d bytes, error %d", n, len(got), e)
		}
	}
}

// TestSe2EveryBit: of the nonce, of the bytes and of the tag.
func TestSe2EveryBit(t *testing.T) {
	for _, n := range []int{0, 1, 31, 32, 33, 65, 4096} {
		s := sealed(t, []byte("k"), [16]byte{1}, "l", sample(n))
		for bit := range 8 * len(s) {
			s[bit/8] ^= 1 << (bit % 8)
			if b, e := Open([]byte("k"), "l", s); e != api.ErrBad || len(b) != 0 {
				t.Fatalf("%d bytes sealed, bit %d turned: Open = %d bytes, error %d, want ErrBad", n, bit, len(b), e)
			}
			s[bit/8] ^= 1 << (bit % 8)
		}
		if b, e := Open([]byte("k"), "l", s); e != api.OK || !bytes.Equal(b, sample(n)) {
			t.Errorf("%d bytes sealed, all bits turned back: Open = %x, error %d", n, b, e)
		}
	}
}

func TestSe2OtherKey(t *testing.T) {
	for i, key := range keys() {
		s := sealed(t, key, [16]byte{1}, "l", []byte("hello"))
		for j, other := range keys() {
			// No key and a key of noughts are one in a block.
			if i != j && i+j != 1 {
				refused(t, "another key", other, "l", s, api.ErrBad)
			}
		}
		for bit := range 8 * len(key) {
			other := slices.Clone(key)
			other[bit/8] ^= 1 << (bit % 8)
			refused(t, "a key unlike in one bit", other, "l", s, api.ErrBad)
		}
	}
}

// TestSe2KeysOfOneTag: what RFC 2104 takes for one key opens, since its tags are alike.
func TestSe2KeysOfOneTag(t *testing.T) {
	digest := sha256.Sum256(sample(65))
	for _, c := range [][2][]byte{{nil, {0}}, {[]byte("k"), []byte("k\x00")}, {sample(65), digest[:]}} {
		s := sealed(t, c[0], [16]byte{1}, "l", []byte("hello"))
		if b, e := Open(c[1], "l", s); e != api.OK || string(b) != "hello" {
			t.Errorf("keys %x and %x: Open = %q, error %d", c[0], c[1], b, e)
		}
	}
}

func TestSe2OtherLabel(t *testing.T) {
	key := []byte("k")
	for i, label := range labels() {
		s := sealed(t, key, [16]byte{1}, label, []byte("hello"))
		for j, other := range labels() {
			if i != j {
				refused(t, "another label", key, other, s, api.ErrBad)
			}
		}
		for bit := range 8 * len(label) {
			other := []byte(label)
			other[bit/8] ^= 1 << (bit % 8)
			refused(t, "a label unlike in one bit", key, string(other), s, api.ErrBad)
		}
	}
}

// TestSe2LabelsEnd: bytes that are moved over the end of the label to the nonce, or back, are another sealed text.
func TestSe2LabelsEnd(t *testing.T) {
	key, nonce := []byte("k"), [16]byte(sample(16))
	label := "cred/1/23"
	s := sealed(t, key, nonce, label, sample(40))
	for i := range len(label) {
		refused(t, "the label's end in the text", key, label[:i], append([]byte(label[i:]), s...), api.ErrBad)
	}
	for i := 1; i <= 40; i++ {
		refused(t, "the text's beginning in the label", key, label+string(s[:i]), s[i:], api.ErrBad)
	}
}

func TestSe2OtherText(t *testing.T) {
	key := []byte("k")
	s := sealed(t, key, [16]byte{1}, "l", sample(70))
	other := sealed(t, key, [16]byte{2}, "l", sample(70))
	for i := range s {
		if rest := s[i+1:]; len(rest) >= 48 {
			refused(t, "its beginning is cut off", key, "l", rest, api.ErrBad)
		}
		if i >= 48 {
			refused(t, "its end is cut off", key, "l", s[:i], api.ErrBad)
		}
	}
	refused(t, "a byte behind it", key, "l", append(slices.Clone(s), 0), api.ErrBad)
	refused(t, "a byte ahead of it", key, "l", append([]byte{0}, s...), api.ErrBad)
	refused(t, "another one's nonce", key, "l", slices.Concat(other[:16], s[16:]), api.ErrBad)
	refused(t, "another one's bytes", key, "l", slices.Concat(s[:16], other[16:86], s[86:]), api.ErrBad)
	refused(t, "another one's tag", key, "l", slices.Concat(s[:86], other[86:]), api.ErrBad)
	refused(t, "two pieces changed for each other", key, "l", slices.Concat(s[:16], s[48:80], s[16:48], s[80:]), api.ErrBad)
	refused(t, "the tag of a plain body", key, "l", slices.Concat(s[:86], tagged(key, s[:86])), api.ErrBad)
}

// TestSe1StreamUnlike: noughts that are sealed are the stream itself; no piece of it comes back, at no nonce and key.
func TestSe1StreamUnlike(t *testing.T) {
	seen := map[string]bool{}
	streams := 0
	for _, key := range keys()[1:] {
		for _, nonce := range nonces() {
			s := sealed(t, key, nonce, "l", make([]byte, 4096))
			for piece := range slices.Chunk(s[16:], 32) {
				seen[string(piece)] = true
			}
			streams++
		}
	}
	if want := streams * (128 + 1); len(seen) != want {
		t.Errorf("%d unlike pieces, tags among them, want %d", len(seen), want)
	}
}

// TestR3Arguments: what is handed in isn't changed, nor does what lies behind its end count.
func TestR3Arguments(t *testing.T) {
	for _, n := range sizes() {
		key, b := sample(132), sample(n+5000)
		want := wanted(key[:32], [16]byte{1}, "l", b[:n])
		if s, e := Seal(key[:32], [16]byte{1}, "l", b[:n]); e != api.OK || !bytes.Equal(s, want) {
			t.Errorf("%d bytes: Seal = %x, error %d, want %x", n, s, e, want)
		}
		text := append(slices.Clone(want), sample(5000)...)
		kept := slices.Clone(text)
		if got, e := Open(key[:32], "l", text[:n+48]); e != api.OK || !bytes.Equal(got, b[:n]) {
			t.Errorf("%d bytes: Open = %x, error %d", n, got, e)
		}
		refused(t, "another label", key[:32], "m", text[:n+48], api.ErrBad)
		if !bytes.Equal(key, sample(132)) || !bytes.Equal(b, sample(n+5000)) || !bytes.Equal(text, kept) {
			t.Fatalf("%d bytes: an argument was changed", n)
		}
	}
}

// TestR3Answers: no answer shares memory with another one or with an argument, its spare room neither.
func TestR3Answers(t *testing.T) {
	for _, n := range sizes() {
		key, b := sample(32), sample(n)
		one, two := sealed(t, key, [16]byte{1}, "l", b), sealed(t, key, [16]byte{1}, "l", b)
		spoil(one)
		if !bytes.Equal(two, wanted(sample(32), [16]byte{1}, "l", sample(n))) {
			t.Errorf("%d bytes: an answer of Seal was turned by another one", n)
		}
		first, _ := Open(key, "l", two)
		second, _ := Open(key, "l", two)
		spoil(first)
		if !bytes.Equal(second, sample(n)) {
			t.Errorf("%d bytes: an answer of Open was turned by another one", n)
		}
		if third, e := Open(key, "l", two); e != api.OK || !bytes.Equal(third, sample(n)) {
			t.Errorf("%d bytes: the sealed text was turned by an answer", n)
		}
		if !bytes.Equal(key, sample(32)) || !bytes.Equal(b, sample(n)) {
			t.Errorf("%d bytes: an argument was turned by an answer", n)
		}
	}
}

func spoil(b []byte) {
	b = b[:cap(b)]
	for i := range b {
		b[i] = 0xee
	}
}
