package mac

import (
	"bytes"
	"crypto/hmac"
	"crypto/sha256"
	"encoding/hex"
	"math"
	"slices"
	"strings"
	"testing"

	"lantern/api"
)

// sample is n bytes, no two neighbours alike, each block unlike the last.
func sample(n int) []byte {
	b := make([]byte, n)
	for i := range b {
		b[i] = byte(i*7 + i/64*13 + 1)
	}
	return b
}

// wanted is the tag, as the library makes it.
func wanted(key, b []byte) [32]byte {
	h := hmac.New(sha256.New, key)
	h.Write(b)
	return [32]byte(h.Sum(nil))
}

// edges are lengths at which a block, or the room for the count of bits in it, is just full.
func edges() []int {
	return []int{0, 1, 31, 32, 33, 55, 56, 63, 64, 65, 66, 119, 120, 127, 128, 129, 1000}
}

func TestMa1OfKnown(t *testing.T) {
	long := bytes.Repeat([]byte{0xaa}, 131)
	counted := make([]byte, 25)
	for i := range counted {
		counted[i] = byte(i + 1)
	}
	cases := []struct {
		name string
		key  []byte
		b    []byte
		want string
	}{
		{"the chapter's", []byte("Jefe"), []byte("what do ya want for nothing?"), "5bdcc146bf60754e6a042426089575c75a003f089d2739839dec58b964ec3843"},
		{"RFC 4231, 1", bytes.Repeat([]byte{0x0b}, 20), []byte("Hi There"), "b0344c61d8db38535ca8afceaf0bf12b881dc200c9833da726e9376c2e32cff7"},
		{"RFC 4231, 3", bytes.Repeat([]byte{0xaa}, 20), bytes.Repeat([]byte{0xdd}, 50), "773ea91e36800e46854db8ebd09181a72959098b3ef8c122d9635514ced565fe"},
		{"RFC 4231, 4", counted, bytes.Repeat([]byte{0xcd}, 50), "82558a389a443c0ea4cc819899f2083a85f0faa3e578f8077a2e3ff46729665b"},
		{"RFC 4231, 6", long, []byte("Test Using Larger Than Block-Size Key - Hash Key First"), "60e431591ee0b67f0d8a26aacbf5b77f8e0bc6213728c5140546040f0ee37f54"},
		{"RFC 4231, 7", long, []byte("This is a test using a larger than block-size key and a larger than block-size data. The key needs to be hashed before being used by the HMAC algorithm."), "9b09ffa71b942fcb27635fbcd5b0e944bfdc63644f0713938a7f51535c3a35e2"},
		{"no key, no bytes", nil, nil, "b613679a0814d9ec772f95d778c35fc5ff1697c493715653c6c712144292c5ad"},
		{"empty key, empty bytes", []byte{}, []byte{}, "b613679a0814d9ec772f95d778c35fc5ff1697c493715653c6c712144292c5ad"},
	}
	for _, c := range cases {
		tag := Of(c.key, c.b)
		if got := hex.EncodeToString(tag[:]); got != c.want {
			t.Errorf("%s: Of = %s, want %s", c.name, got, c.want)
		}
	}
}

func TestMa1OfEveryKey(t *testing.T) {
	for size := range 300 {
		for _, key := range [][]byte{sample(size), make([]byte, size), bytes.Repeat([]byte{0xff}, size)} {
			for _, n := range edges() {
				if got, want := Of(key, sample(n)), wanted(key, sample(n)); got != want {
					t.Fatalf("a key of %d bytes, %d bytes: Of = %x, want %x", size, n, got, want)
				}
			}
		}
	}
	for _, n := range []int{api.MaxBytes, api.MaxBytes + 1, 1 << 20} {
		if got, want := Of(sample(n), sample(n+1)), wanted(sample(n), sample(n+1)); got != want {
			t.Errorf("a key of %d bytes: Of = %x, want %x", n, got, want)
		}
	}
}

// TestMa1LongKey: only a key that is longer than a block is its digest first.
func TestMa1LongKey(t *testing.T) {
	b := []byte("some bytes")
	for _, size := range []int{0, 1, 63, 64, 65, 66, 128, 1000} {
		key := sample(size)
		short := sha256.Sum256(key)
		if got := Of(key, b) == Of(short[:], b); got != (size > 64) {
			t.Errorf("a key of %d bytes: as by its digest: %v", size, got)
		}
	}
}

func TestMa1Same(t *testing.T) {
	alike := [][2]string{{"", ""}, {"a", "a"}, {"\x00", "\x00"}, {"\xff\x00", "\xff\x00"}, {"abc", "abc"}}
	for _, c := range alike {
		if !Same([]byte(c[0]), []byte(c[1])) {
			t.Errorf("Same(%q, %q) = false", c[0], c[1])
		}
	}
	unlike := [][2]string{
		{"", "a"}, {"a", ""}, {"", "\x00"}, {"\x00", ""}, {"a", "A"}, {"ab", "ba"}, {"abc", "ab"}, {"ab", "abc"},
		{"\x00", "\x00\x00"}, {"\x01\x02", "\x02\x01"}, {"\x01\x01", "\x02\x02"}, {"\x01\x00", "\x00\x01"}, {"\x00", "\x80"},
	}
	for _, c := range unlike {
		if Same([]byte(c[0]), []byte(c[1])) {
			t.Errorf("Same(%q, %q) = true", c[0], c[1])
		}
	}
	if !Same(nil, nil) || !Same(nil, []byte{}) || !Same([]byte{}, nil) || Same(nil, []byte{0}) || Same([]byte{0}, nil) {
		t.Error("nil is not as the empty list")
	}
}

func TestMa1SameEveryBit(t *testing.T) {
	for _, n := range []int{1, 2, 16, 32, 64, 257} {
		a, b := sample(n), sample(n)
		if !Same(a, b) || !Same(a, a) {
			t.Errorf("%d bytes: alike ones are not the same", n)
		}
		for bit := range 8 * n {
			b[bit/8] ^= 1 << (bit % 8)
			if Same(a, b) || Same(b, a) {
				t.Errorf("%d bytes, unlike in bit %d: the same", n, bit)
			}
			b[bit/8] ^= 1 << (bit % 8)
		}
		for cut := range n {
			if Same(a, a[:cut]) || Same(a[:cut], a) {
				t.Errorf("%d bytes are the same as their first %d", n, cut)
			}
		}
	}
}

// secrets are some that may be, and some that may not be, with what Check tells.
func secrets() map[string]api.Errno {
	return map[string]api.Errno{
		"":                         api.ErrArg,
		"a":                        api.ErrArg,
		"short":                    api.ErrArg,
		"7 bytes":                  api.ErrArg,
		"ééé":                      api.ErrArg,
		"\x00\x00\x00\x00\x00\x00": api.ErrArg,
		"8 bytes.":                 api.OK,
		"éééé":                     api.OK, // bytes count, not runes
		"        ":                 api.OK,
		strings.Repeat("\x00", 8):  api.OK,
		strings.Repeat("\xff", 9):  api.OK,
		strings.Repeat("x", 64):    api.OK,
		strings.Repeat("x", 127):   api.OK,
		strings.Repeat("x", 128):   api.OK,
		strings.Repeat("é", 64):    api.OK,
		strings.Repeat("x", 129):   api.ErrLong,
		strings.Repeat("é", 65):    api.ErrLong,
		strings.Repeat("x", 1<<17): api.ErrLong,
	}
}

func TestMa1Check(t *testing.T) {
	for secret, want := range secrets() {
		if got := Check(secret); got != want {
			t.Errorf("Check of %d bytes (%.20q) = %d, want %d", len(secret), secret, got, want)
		}
	}
	for n := range 300 {
		want := api.OK
		if n < 8 {
			want = api.ErrArg
		} else if n > 128 {
			want = api.ErrLong
		}
		if got := Check(string(sample(n))); got != want {
			t.Errorf("Check of %d bytes = %d, want %d", n, got, want)
		}
	}
}

func TestMa1Store(t *testing.T) {
	for _, salt := range [][16]byte{{}, {1}, {15: 1}, [16]byte(sample(16)), [16]byte(bytes.Repeat([]byte{0xff}, 16))} {
		for secret, refused := range secrets() {
			var want [32]byte
			if refused == api.OK {
				want = wanted(salt[:], []byte(secret))
			}
			if got, e := Store(salt, secret); e != refused || got != want {
				t.Errorf("Store of %d bytes (%.20q) = %x, error %d, want %x, error %d", len(secret), secret, got, e, want, refused)
			}
		}
	}
}

// TestMa1Match: also at the tag that a secret would have if Check let it, and at the one beside Store's error.
func TestMa1Match(t *testing.T) {
	for _, salt := range [][16]byte{{}, {1}, [16]byte(sample(16))} {
		for secret, refused := range secrets() {
			tag := wanted(salt[:], []byte(secret))
			if got := Match(salt, secret, tag); got != (refused == api.OK) {
				t.Errorf("Match of %d bytes (%.20q) = %v", len(secret), secret, got)
			}
			if Match(salt, secret, [32]byte{}) {
				t.Errorf("Match of %d bytes (%.20q) with no tag", len(secret), secret)
			}
		}
	}
}

// derived is what Derive has to give, made the long way round.
func derived(key []byte, label string, n int) []byte {
	var all []byte
	for i := 1; len(all) < n; i++ {
		tag := wanted(key, []byte(label+"\x00"+string([]byte{byte(i)})))
		all = append(all, tag[:]...)
	}
	return all[:n]
}

func TestMa2Derive(t *testing.T) {
	keys := [][]byte{nil, []byte("k"), sample(32), sample(63), sample(64), sample(65), sample(200)}
	labels := []string{"", "x", "stream", "tag", "\x00", "x\x00", "x\x00\x01", "é", "\xff\xfe", strings.Repeat("label", 50)}
	for _, key := range keys {
		for _, label := range labels {
			for _, n := range []int{0, 1, 5, 31, 32, 33, 63, 64, 65, 1023, 1024} {
				got, e := Derive(key, label, n)
				if want := derived(key, label, n); e != api.OK || !bytes.Equal(got, want) {
					t.Errorf("a key of %d bytes, %q: Derive %d = %x, error %d, want %x", len(key), label, n, got, e, want)
				}
			}
		}
	}
}

// TestMa2DeriveKnown holds the bytes themselves, whatever makes the tags.
func TestMa2DeriveKnown(t *testing.T) {
	const want = "33b8774572e81ac7d5afda974ab1bf627f72035140019f0a6a572e02fdf7ce0a" + "19"
	got, e := Derive([]byte("k"), "x", 33)
	if s := hex.EncodeToString(got); e != api.OK || s != want {
		t.Errorf("Derive = %s, error %d, want %s", s, e, want)
	}
}

func TestMa2DeriveRefused(t *testing.T) {
	for _, n := range []int{-1, -32, -1024, 1025, 1056, 2048, 1 << 20, 1 << 40, math.MaxInt, math.MinInt} {
		for _, key := range [][]byte{nil, []byte("k"), sample(65)} {
			if got, e := Derive(key, "x", n); e != api.ErrArg || len(got) != 0 {
				t.Errorf("Derive %d = %d bytes, error %d, want ErrArg", n, len(got), e)
			}
		}
	}
}

// TestMa3OwnSecretOnly: neither another secret, nor another salt, nor another tag matches, were they unlike in one bit only.
func TestMa3OwnSecretOnly(t *testing.T) {
	salt := [16]byte(sample(16))
	for _, n := range []int{8, 9, 64, 127, 128} {
		secret := string(sample(n))
		tag, e := Store(salt, secret)
		if e != api.OK || !Match(salt, secret, tag) {
			t.Fatalf("%d bytes: what was stored (error %d) does not match", n, e)
		}
		for bit := range 8 * len(tag) {
			other := tag
			other[bit/8] ^= 1 << (bit % 8)
			if Match(salt, secret, other) {
				t.Errorf("%d bytes: a tag unlike in bit %d matches", n, bit)
			}
		}
		for bit := range 8 * len(salt) {
			other := salt
			other[bit/8] ^= 1 << (bit % 8)
			if Match(other, secret, tag) {
				t.Errorf("%d bytes: a salt unlike in bit %d matches", n, bit)
			}
		}
		for bit := range 8 * n {
			other := []byte(secret)
			other[bit/8] ^= 1 << (bit % 8)
			if Match(salt, string(other), tag) {
				t.Errorf("%d bytes: a secret unlike in bit %d matches", n, bit)
			}
		}
		for _, other := range []string{"", secret[1:], secret[:n-1], secret + "\x00", "\x00" + secret, secret + secret} {
			if Match(salt, other, tag) {
				t.Errorf("%d bytes: another secret, of %d, matches", n, len(other))
			}
		}
	}
}

func TestMa3StoredUnlike(t *testing.T) {
	seen := map[[32]byte]string{}
	for s := range 20 {
		for n := 8; n <= 128; n++ {
			for _, secret := range []string{string(sample(n)), strings.Repeat("\x00", n), strings.Repeat("a", n)} {
				tag, e := Store([16]byte{15: byte(s)}, secret)
				if other, has := seen[tag]; has || e != api.OK {
					t.Fatalf("salt %d: %q (error %d) has the tag of %q", s, secret, e, other)
				}
				seen[tag] = secret
			}
		}
	}
}

func TestMa3FewerIsTheBeginning(t *testing.T) {
	for _, key := range [][]byte{nil, []byte("k"), sample(65)} {
		all, e := Derive(key, "x", 1024)
		if e != api.OK || len(all) != 1024 {
			t.Fatalf("Derive 1024 = %d bytes, error %d", len(all), e)
		}
		for n := range 1025 {
			if got, e := Derive(key, "x", n); e != api.OK || !bytes.Equal(got, all[:n]) {
				t.Errorf("%d bytes (error %d) are not the beginning of 1024", n, e)
			}
		}
	}
}

// TestMa3PartsUnlike: each piece of what is derived is a tag of its own, and other purposes have others.
func TestMa3PartsUnlike(t *testing.T) {
	seen := map[string]string{}
	for _, label := range []string{"", "x", "y", "stream", "tag"} {
		all, _ := Derive([]byte("k"), label, 1024)
		for piece := range slices.Chunk(all, 32) {
			if other, has := seen[string(piece)]; has {
				t.Fatalf("%q has a piece of %q", label, other)
			}
			seen[string(piece)] = label
		}
	}
	if len(seen) != 5*32 {
		t.Errorf("%d pieces", len(seen))
	}
}

// TestR3Arguments: what is handed in isn't changed, nor is what lies behind its end.
func TestR3Arguments(t *testing.T) {
	for _, n := range edges() {
		key, b := sample(n+100), sample(n+200)
		kept, keptToo := slices.Clone(key), slices.Clone(b)
		if Of(key[:n], b[:n]) != wanted(kept[:n], keptToo[:n]) {
			t.Errorf("%d bytes: what lies behind them counts", n)
		}
		Same(key[:n], b[:n])
		if got, e := Derive(key[:n], "x", 100); e != api.OK || !bytes.Equal(got, derived(kept[:n], "x", 100)) {
			t.Errorf("a key of %d bytes: what lies behind it counts", n)
		}
		if !bytes.Equal(key, kept) || !bytes.Equal(b, keptToo) {
			t.Fatalf("%d bytes: an argument was changed", n)
		}
	}
}

// TestR3Answers: no answer shares memory with another one or with an argument, its spare room neither.
func TestR3Answers(t *testing.T) {
	for _, n := range []int{0, 1, 31, 32, 33, 1000, 1024} {
		key := sample(100)
		one, _ := Derive(key, "x", n)
		two, _ := Derive(key, "x", n)
		spoil(one)
		if !bytes.Equal(two, derived(sample(100), "x", n)) {
			t.Errorf("%d bytes: an answer was turned by another one", n)
		}
		spoil(two)
		if !bytes.Equal(key, sample(100)) {
			t.Errorf("%d bytes: the key was turned by an answer", n)
		}
		if three, _ := Derive(key, "x", n); !bytes.Equal(three, derived(key, "x", n)) {
			t.Errorf("%d bytes: what is answered later was turned by an answer", n)
		}
	}
}

func spoil(b []byte) {
	b = b[:cap(b)]
	for i := range b {
		b[i] = 0xee
	}
}
