package chunk

import (
	"bytes"
	"math/rand"
	"regexp"
	"slices"
	"strconv"
	"strings"
	"testing"
	"unsafe"

	"lantern/api"
	"lantern/header"
)

// What this file reads chunks' lines by. (A pattern's class that leaves bytes out has all bytes above 127.)
var (
	sizes = regexp.MustCompile(`^([0-9A-Fa-f]{1,8})(?:;[^\r\n]*)?$`)
	line  = regexp.MustCompile(`^([^\n]*)\r\n`)
)

// sizeOf is what Size is to tell, by this file's pattern.
func sizeOf(s string) (int, api.Errno) {
	p := sizes.FindStringSubmatch(s)
	if p == nil || len(s) > 256 {
		return 0, api.ErrText
	}
	n := 0
	for _, c := range strings.ToLower(p[1]) {
		n = n*16 + strings.IndexRune("0123456789abcdef", c)
	}
	return n, api.OK
}

// encodeOf is pieces as a body in chunks, however many bytes they have.
func encodeOf(pieces ...string) string {
	var s strings.Builder
	for _, p := range pieces {
		if p != "" {
			s.WriteString(strconv.FormatInt(int64(len(p)), 16) + "\r\n" + p + "\r\n")
		}
	}
	return s.String() + "0\r\n\r\n"
}

// decodeOf is what Decode is to tell, by this file's patterns, and by layer 9 of trailers.
func decodeOf(s string) (string, int, api.Errno) {
	var body []byte
	rest := s
	for {
		if len(rest) < 258 && !strings.Contains(rest, "\n") {
			return "", 0, api.ErrMore
		}
		p := line.FindStringSubmatch(rest)
		if p == nil || len(p[0]) > 258 {
			return "", 0, api.ErrText
		}
		size, e := sizeOf(p[1])
		if e != api.OK {
			return "", 0, e
		}
		rest = rest[len(p[0]):]
		if size == 0 {
			break
		}
		switch {
		case len(body)+size > 32768:
			return "", 0, api.ErrLong
		case len(rest) <= size || rest[size:] == "\r":
			return "", 0, api.ErrMore
		case !strings.HasPrefix(rest[size:], "\r\n"):
			return "", 0, api.ErrText
		}
		body, rest = append(body, rest[:size]...), rest[size+2:]
	}
	_, n, e := header.Parse([]byte(rest))
	if e != api.OK {
		return "", 0, e
	}
	return string(body), len(s) - len(rest) + n, api.OK
}

// pieces is texts as Encode takes them.
func pieces(texts ...string) [][]byte {
	var all [][]byte
	for _, s := range texts {
		all = append(all, []byte(s))
	}
	return all
}

// some is n bytes of all kinds, line ends among them.
func some(n int) string {
	b := make([]byte, n)
	for i := range b {
		b[i] = "\r\n0;a\x00\xff"[i*i%7] + byte(i/40)
	}
	return string(b)
}

// byteText is a text of one byte.
func byteText(c int) string {
	return string([]byte{byte(c)})
}

// grown calls f on every text of at most size parts behind head.
func grown(head string, size int, parts []string, f func(s string)) {
	f(head)
	if size == 0 {
		return
	}
	for _, p := range parts {
		grown(head+p, size-1, parts, f)
	}
}

func encodes(t *testing.T, texts ...string) {
	t.Helper()
	want := encodeOf(texts...)
	if b, e := Encode(pieces(texts...)); string(b) != want || e != api.OK {
		t.Errorf("Encode(%.80q) = %.80q, error %d, want %.80q", texts, b, e, want)
	}
}

func encodesNot(t *testing.T, all [][]byte) {
	t.Helper()
	if b, e := Encode(all); len(b) != 0 || e != api.ErrLong {
		t.Errorf("Encode of %d pieces = %.80q, error %d, want ErrLong", len(all), b, e)
	}
}

// says holds Size of a text against what it is to tell.
func says(t *testing.T, s string, want int, errno api.Errno) {
	t.Helper()
	if n, e := Size(s); n != want || e != errno {
		t.Errorf("Size(%.80q), of %d bytes = %d, error %d, want %d, error %d", s, len(s), n, e, want, errno)
	}
	if n, e := sizeOf(s); n != want || e != errno {
		t.Errorf("this file's pattern makes %d of %.80q, error %d, want %d, error %d", n, s, e, want, errno)
	}
}

func saysAs(t *testing.T, s string) {
	t.Helper()
	n, e := sizeOf(s)
	says(t, s, n, e)
}

// decodes holds Decode of a text against what it is to tell.
func decodes(t *testing.T, s, want string, size int, errno api.Errno) {
	t.Helper()
	body, n, e := Decode([]byte(s))
	if string(body) != want || n != size || e != errno {
		t.Errorf("Decode(%.80q), of %d bytes = %.80q, %d, error %d, want %.80q, %d, error %d", s, len(s), body, n, e, want, size, errno)
	}
}

// decodesAs holds Decode of a text against this file's patterns, and tells what is read.
func decodesAs(t *testing.T, s string) api.Errno {
	t.Helper()
	body, n, e := decodeOf(s)
	decodes(t, s, body, n, e)
	return e
}

func decodesNot(t *testing.T, s string, want api.Errno) {
	t.Helper()
	decodes(t, s, "", 0, want)
	if _, _, e := decodeOf(s); e != want {
		t.Errorf("this file's patterns tell error %d of %.80q, of %d bytes, want %d", e, s, len(s), want)
	}
}

func TestCu1Encode(t *testing.T) {
	for want, texts := range map[string][]string{
		"0\r\n\r\n":                                     nil,
		"3\r\nabc\r\n0\r\n\r\n":                         {"abc"},
		"1\r\na\r\n2\r\nbc\r\n0\r\n\r\n":                {"a", "bc"},
		"2\r\nbc\r\n1\r\na\r\n0\r\n\r\n":                {"bc", "a"},
		"1\r\na\r\n1\r\na\r\n0\r\n\r\n":                 {"a", "a"},
		"2\r\n\r\n\r\n0\r\n\r\n":                        {"\r\n"},
		"5\r\n0\r\n\r\n\r\n0\r\n\r\n":                   {"0\r\n\r\n"},
		"2\r\n\x00\xff\r\n0\r\n\r\n":                    {"\x00\xff"},
		"9\r\n123456789\r\n0\r\n\r\n":                   {"123456789"},
		"a\r\n1234567890\r\n0\r\n\r\n":                  {"1234567890"},
		"f\r\n123456789012345\r\n0\r\n\r\n":             {"123456789012345"},
		"10\r\n1234567890123456\r\n0\r\n\r\n":           {"1234567890123456"},
		"1a\r\nabcdefghijklmnopqrstuvwxyz\r\n0\r\n\r\n": {"abcdefghijklmnopqrstuvwxyz"},
	} {
		if got := encodeOf(texts...); got != want {
			t.Errorf("this file makes %q of %q", got, texts)
		}
		encodes(t, texts...)
	}
}

// Pieces that are empty leave nothing behind, wherever they stand.
func TestCu1EncodeEmpty(t *testing.T) {
	for _, all := range [][][]byte{nil, {}, {nil}, {{}}, {nil, {}, nil}, make([][]byte, 1000)} {
		if b, e := Encode(all); string(b) != "0\r\n\r\n" || e != api.OK {
			t.Errorf("Encode of %d empty pieces = %q, error %d", len(all), b, e)
		}
	}
	const want = "1\r\na\r\n2\r\nbc\r\n0\r\n\r\n"
	for i := range 3 {
		for _, none := range [][]byte{nil, {}} {
			if b, e := Encode(slices.Insert(pieces("a", "bc"), i, none, none)); string(b) != want || e != api.OK {
				t.Errorf("Encode with empty pieces at %d = %q, error %d", i, b, e)
			}
		}
	}
}

func TestCu1EncodeSizes(t *testing.T) {
	for n := range 5000 {
		encodes(t, some(n))
	}
	for _, n := range []int{16383, 16384, 32766, 32767, 32768} {
		encodes(t, some(n))
	}
	for c := range 256 {
		encodes(t, byteText(c))
	}
}

func TestCu1EncodeLong(t *testing.T) {
	full := some(32768)
	for _, cut := range []int{0, 1, 2, 255, 16384, 32766, 32767, 32768} {
		encodes(t, full[:cut], full[cut:])
		encodesNot(t, pieces(full[:cut], full[cut:], "x"))
		encodesNot(t, pieces("x", full[:cut], full[cut:]))
		encodesNot(t, pieces(full[:cut], "", "x", full[cut:]))
	}
	ones := strings.Split(strings.Repeat("a", 32768), "")
	encodes(t, ones...)
	encodesNot(t, pieces(append(ones, "a")...))
	for _, n := range []int{32769, 32770, 65535, 65536, 1 << 20} {
		encodesNot(t, pieces(some(n)))
	}
	encodesNot(t, slices.Repeat(pieces(some(1<<20)), 1<<13))
}

func TestCu1Size(t *testing.T) {
	for s, want := range map[string]int{
		"0": 0, "1": 1, "9": 9, "a": 10, "A": 10, "f": 15, "F": 15, "10": 16, "1a": 26, "fF": 255, "Ff": 255, "100": 256, "8000": 32768, "8001": 32769, "deadBEEF": 0xdeadbeef, "7fffffff": 1<<31 - 1, "80000000": 1 << 31, "ffffffff": 1<<32 - 1, "FFFFFFFF": 1<<32 - 1, "12345678": 0x12345678, "9abcdef0": 0x9abcdef0,

		// Noughts ahead.
		"00": 0, "00000000": 0, "01": 1, "00000001": 1, "0000000f": 15, "0a": 10, "0b1": 177, "0e1": 225,

		// Notes.
		"3;": 3, "3;x": 3, "3;;": 3, "fF;x": 255, "0;": 0, "0;x=y": 0, "3; x": 3, "3;\t": 3, "3;x;y": 3, "3;\"\x00\xff": 3, "3;é": 3, "ffffffff;123456789": 1<<32 - 1, "3;zz 4": 3, "00000003;x": 3, "3;3\x0b\x0c\x85": 3, "3;" + strings.Repeat(";", 254): 3,
	} {
		says(t, s, want, api.OK)
	}
	for _, s := range []string{
		"", ";", ";x", ";3", "+3", "-3", "+0", "-0", " 3", "3 ", "\t3", "3\t", "3 ;x", "3\t;", " ;", "3 4", "3_0", "_3", "3_", "0x3", "0X3", "x3", "3x", "0o7", "3h", "3.", "3.0", ".3", "1e+1", "3,x", "3:x", "g", "G", "z", "3g", "g3", "@", "/", "`", "\x00", "3\x00", "\x003", "\x7f", "é", "٣", "３", "\xff", "3\xff", "3,", "inf", "nan", "#3", "3'",

		// More digits than 8, noughts too.
		"000000000", "000000001", "100000000", "123456789", "ffffffff0", "0ffffffff", "123456789;x", "10000000000000000", "10000000000000001", strings.Repeat("0", 256), strings.Repeat("f", 256), strings.Repeat("0", 255) + "1",

		// Line ends.
		"\r", "\n", "\r\n", "3\r", "3\n", "3\r\n", "\r3", "\n3", "3\r3", "3\n3", "3;\r", "3;\n", "3;x\r", "3;x\n", "3;x\ry", "3;x\ny", "3;\r\n", "3;x\r\ny", "3\r;x", "3\n;x", "3;\rx", "3;\nx",
	} {
		says(t, s, 0, api.ErrText)
	}
}

func TestCu1SizeEveryByte(t *testing.T) {
	for c := range 256 {
		for _, form := range []string{"@", "@@", "3@", "@3", "3@4", "@;x", "3@;x", "3;@", "3;x@", "3;@x", "3;x@y", "1234567@", "@1234567", "12345678@", "123@5678", "@@@@@@@@", "@;@"} {
			saysAs(t, strings.ReplaceAll(form, "@", byteText(c)))
		}
		for d := range 256 {
			saysAs(t, byteText(c)+byteText(d))
		}
	}
}

func TestCu1SizeShort(t *testing.T) {
	grown("", 5, strings.Split("0;9aFg+\r\n ", ""), func(s string) { saysAs(t, s) })
	grown("", 9, strings.Split("0F;", ""), func(s string) { saysAs(t, s) })
	grown("1234567", 4, strings.Split("0a;\r x", ""), func(s string) { saysAs(t, s) })
}

func TestCu1SizeNumbers(t *testing.T) {
	for _, n := range []int{0, 1, 15, 16, 255, 256, 4095, 4096, 65535, 65536, 1<<20 - 1, 1 << 20, 1<<24 - 1, 1 << 24, 1<<28 - 1, 1 << 28, 1<<31 - 1, 1 << 31, 1<<32 - 1} {
		s := strconv.FormatInt(int64(n), 16)
		for len(s) <= 8 {
			for _, note := range []string{"", ";", ";x", ";" + s} {
				says(t, s+note, n, api.OK)
				says(t, strings.ToUpper(s)+note, n, api.OK)
			}
			s = "0" + s
		}
		says(t, s, 0, api.ErrText)
	}
	for i := range 1 << 16 {
		n := i * 0x10001
		says(t, strconv.FormatInt(int64(n), 16), n, api.OK)
	}
}

func TestCu1SizeLong(t *testing.T) {
	for _, ahead := range []string{"3;", "00000003;", "3;\xff"} {
		for _, size := range []int{254, 255, 256} {
			says(t, ahead+strings.Repeat("x", size-len(ahead)), 3, api.OK)
			says(t, ahead+strings.Repeat("\xff", size-len(ahead)), 3, api.OK)
		}
		for _, size := range []int{257, 258, 259, 511, 512, 513, 4096, 1 << 20} {
			says(t, ahead+strings.Repeat("x", size-len(ahead)), 0, api.ErrText)
		}
	}
	// Bytes, not runes.
	says(t, "3;"+strings.Repeat("é", 127), 3, api.OK)
	says(t, "3;"+strings.Repeat("é", 127)+"x", 0, api.ErrText)
	says(t, "3;"+strings.Repeat("é", 200), 0, api.ErrText)
}

func TestCu2Decode(t *testing.T) {
	for s, want := range map[string]string{
		// No chunk.
		"0\r\n\r\n": "", "0\r\n\n": "", "00000000\r\n\r\n": "", "0;x\r\n\r\n": "", "0;\r\n\r\n": "",

		// The document's.
		"3\r\nabc\r\n0\r\n\r\n": "abc", "3;x\r\nabc\r\n0\r\n\r\n": "abc", "3;x\r\nabc\r\n0\r\nT: v\r\n\r\n": "abc",

		// Several, and sizes as they may be written.
		"1\r\na\r\n2\r\nbc\r\n0\r\n\r\n":                      "abc",
		"2\r\nab\r\n1\r\nc\r\n00\r\n\r\n":                     "abc",
		"00000003\r\nabc\r\n0\r\n\r\n":                        "abc",
		"a\r\n1234567890\r\n0\r\n\r\n":                        "1234567890",
		"A;note\r\n1234567890\r\n0\r\n\r\n":                   "1234567890",
		"0B\r\n12345678901\r\n1\r\n2\r\n0\r\n\r\n":            "123456789012",
		"10\r\n1234567890123456\r\n0\r\n\r\n":                 "1234567890123456",
		"1;a;b\r\nx\r\n1; c\r\ny\r\n1;\r\nz\r\n0;d=e\r\n\r\n": "xyz",

		// Bytes that would mean something elsewhere.
		"2\r\n\r\n\r\n0\r\n\r\n":           "\r\n",
		"1\r\n\r\r\n0\r\n\r\n":             "\r",
		"1\r\n\n\r\n0\r\n\r\n":             "\n",
		"5\r\n0\r\n\r\n\r\n0\r\n\r\n":      "0\r\n\r\n",
		"3\r\n;\x00\xff\r\n0\r\n\r\n":      ";\x00\xff",
		"4\r\n1\r\nx\r\n1\r\ny\r\n0\r\n\n": "1\r\nxy",

		// Trailers, as layer 9 reads headers.
		"0\r\nA: b\r\n\r\n": "", "0\r\nA:b\n\n": "", "0\r\nA: b\nC: d\r\n\n": "", "1\r\nx\r\n0\r\nA: b\r\nA: b\r\n\r\n": "x", "1\r\nx\r\n0;y\r\nContent-Length: 7\r\n\r\n": "x", "0\r\nA:\n\n": "",
	} {
		// Whatever follows.
		for _, rest := range []string{"", "x", "\r", "\n", "\r\n", "0\r\n\r\n", "1\r\nx\r\n", "\x00", "A: b\r\n\r\n", strings.Repeat("\n", 9000), strings.Repeat("y", 300), strings.Repeat("z", 1<<16)} {
			decodes(t, s+rest, want, len(s), api.OK)
			if body, n, e := decodeOf(s + rest); body != want || n != len(s) || e != api.OK {
				t.Errorf("this file's patterns make %q, %d of %.80q, error %d", body, n, s+rest, e)
			}
		}
	}
	decodes(t, "3;x\r\nabc\r\n0\r\nT: v\r\n\r\ny", "abc", 21, api.OK)
	decodes(t, "0\r\n\r\n0\r\n\r\n", "", 5, api.OK)
	decodes(t, "0\r\n\n\n", "", 4, api.OK)
}

// Lines that are none, wherever they stand and whatever follows.
func TestCu2DecodeWrongLine(t *testing.T) {
	for _, wrong := range []string{
		// No size.
		"\r\n", ";\r\n", ";x\r\n", "+3\r\n", "-3\r\n", "-0\r\n", " 3\r\n", "3 \r\n", "3 ;x\r\n", "3\t\r\n", "0x3\r\n", "3_0\r\n", "g\r\n", "3g\r\n", "3,\r\n", "\x003\r\n", "3\x00\r\n", "é\r\n", "\xff\r\n", "123456789\r\n", "000000003\r\n", "000000000\r\n", "ffffffff0\r\n", " \r\n", "cz\r\n",

		// A line feed without a carriage return right ahead.
		"\n", "3\n", "0\n", "3;x\n", "\r3\n", "3\r \n", "3\rx\n", "3;\rx\n", ";\n", "+3\n", "3;x\ny\r\n", "0\n\n", "0\n\r\n", "9000\n",

		// A carriage return more.
		"\r\r\n", "3\r\r\n", "3;x\r\r\n", "\r3\r\n", "3\r3\r\n", "3;\rx\r\n", "3\r;x\r\n", "0\r\r\n", "9000\r\r\n",
	} {
		for _, ahead := range []string{"", "3\r\nabc\r\n", "1;x\r\na\r\n2\r\nbc\r\n"} {
			for _, behind := range []string{"", "\r\n", "abc\r\n0\r\n\r\n", "x", "\n", strings.Repeat("y", 300), strings.Repeat("a", 40000)} {
				decodesNot(t, ahead+wrong+behind, api.ErrText)
			}
		}
	}
}

// What stands behind a chunk, byte by byte.
func TestCu2DecodeWrongEnd(t *testing.T) {
	for _, size := range []int{1, 3, 15, 16, 256, 32768} {
		head := strconv.FormatInt(int64(size), 16) + "\r\n" + some(size)
		for _, wrong := range []string{"x", "\n", "0", "\x00", "\r\r", "\rx", "\r\r\n", "x\r\n", " \r\n", "\n\r", "\n\n", "0\r\n\r\n", "\r0", "\xff", ";", "\r \n"} {
			for _, behind := range []string{"", "\n", "\r\n", "0\r\n\r\n", strings.Repeat("z", 1000)} {
				decodesNot(t, head+wrong+behind, api.ErrText)
			}
		}
		for c := range 256 {
			if c != '\r' {
				decodesNot(t, head+byteText(c), api.ErrText)
				decodesNot(t, head+byteText(c)+"\n0\r\n\r\n", api.ErrText)
			}
			if c != '\n' {
				decodesNot(t, head+"\r"+byteText(c), api.ErrText)
				decodesNot(t, head+"\r"+byteText(c)+"0\r\n\r\n", api.ErrText)
			}
		}
		decodesNot(t, head, api.ErrMore)
		decodesNot(t, head+"\r", api.ErrMore)
		decodesNot(t, head+"\r\n", api.ErrMore)
	}
}

func TestCu2DecodeMore(t *testing.T) {
	for _, s := range []string{
		"", "3", "3\r", "3\r\n", "3\r\na", "3\r\nab", "3\r\nabc", "3\r\nabc\r", "3\r\nabc\r\n", "3\r\nabc\r\n0", "3\r\nabc\r\n0\r", "3\r\nabc\r\n0\r\n", "3\r\nabc\r\n0\r\n\r", "0\r\nA", "0\r\nA: b", "0\r\nA: b\r\n", "0\r\nA: b\r\n\r", "0\r\nA: b\nC: d\n", "0", "0\r", "0\r\n", "0\r\n\r", "8000\r\n", "8000\r\nx", "1\r\nx\r\n7fff\r\n", "3\r\n\r\n", "3\r\n\r\n\r", "3;", "3;x", "3;x\r",

		// What is wrong in a line or trailer is not looked at ahead of its line feed.
		"+", "+3", "+3\r", " ", ";", "\r", "\r\r", "3\rx", "g", "\x00", "\xff", "123456789", "9000", "9000\r", "ffffffff", "3\r\nabc\r\n+", "3\r\nabc\r\n\r", "0\r\n ", "0\r\n:", "0\r\n\r\r", "0\r\nA b", "8000;x",
	} {
		decodesNot(t, s, api.ErrMore)
	}
}

// The first line feed is among the next 258 bytes, if there are so many.
func TestCu2DecodeLongLine(t *testing.T) {
	for _, ahead := range []string{"", "3\r\nabc\r\n", "1\r\n\n\r\n1\r\n\r\r\n"} {
		body, _, _ := decodeOf(ahead + "0\r\n\r\n")
		for _, size := range []int{1, 2, 100, 253, 254, 255, 256} {
			said := strings.Repeat("0", min(size, 8)-1) + "1"
			if size > len(said) {
				said += ";" + strings.Repeat("n", size-len(said)-1)
			}
			s := ahead + said + "\r\nz\r\n0\r\n\r\n"
			decodes(t, s, body+"z", len(s), api.OK)
			decodes(t, s+some(400), body+"z", len(s), api.OK)
			decodesNot(t, ahead+said, api.ErrMore)
			decodesNot(t, ahead+said+"\r", api.ErrMore)
			decodesNot(t, ahead+said+"\r\n", api.ErrMore)
			decodesNot(t, ahead+said+"\n", api.ErrText)
		}
		for _, size := range []int{257, 258, 259, 260, 300, 1000, 1 << 16} {
			said := "1;" + strings.Repeat("n", size-2)
			decodesNot(t, ahead+said+"\r\nz\r\n0\r\n\r\n", api.ErrText)
			decodesNot(t, ahead+said+"\r\n", api.ErrText)
			decodesNot(t, ahead+said+"\r", api.ErrText)
			decodesNot(t, ahead+said+"\n", api.ErrText)
		}
		for _, piece := range []string{"x", "0", "\r", " ", ";", "\x00", "\xff"} {
			for _, size := range []int{255, 256, 257} {
				decodesNot(t, ahead+strings.Repeat(piece, size), api.ErrMore)
			}
			for _, size := range []int{258, 259, 260, 1000} {
				decodesNot(t, ahead+strings.Repeat(piece, size), api.ErrText)
			}
		}
		note := "3;" + strings.Repeat("n", 254)
		decodesNot(t, ahead+note+"\r", api.ErrMore)
		decodesNot(t, ahead+note+"n", api.ErrMore)
		decodesNot(t, ahead+note+"\rn", api.ErrText)
		decodesNot(t, ahead+note+"n\n", api.ErrText)
		decodesNot(t, ahead+note+"n\r", api.ErrText)
		decodesNot(t, ahead+note+"n\r\n", api.ErrText)
	}
}

// A body of more than 32768 bytes is told at the line that says so.
func TestCu2DecodeLong(t *testing.T) {
	full := some(32768)
	decodes(t, encodeOf(full), full, len(encodeOf(full)), api.OK)
	for _, size := range []string{"8001", "8002", "9000", "ffff", "10000", "7fffffff", "80000000", "ffffffff", "FFFF8000", "00008001", "9000;x", "8001;" + strings.Repeat("n", 251)} {
		for _, behind := range []string{"", "x", "\r\n", "abc\r\n", full, full + "x\r\n0\r\n\r\n", strings.Repeat("x", 0x9000) + "\r\n0\r\n\r\n", strings.Repeat("x", 70000)} {
			decodesNot(t, size+"\r\n"+behind, api.ErrLong)
		}
	}
	for _, cut := range []int{1, 2, 16, 255, 16384, 32766, 32767, 32768} {
		ahead := strings.TrimSuffix(encodeOf(full[:cut]), "0\r\n\r\n")
		left := int64(32768 - cut)
		for _, more := range []int64{1, 2, 256, 32768, 1<<32 - 1 - left} {
			size := strconv.FormatInt(left+more, 16)
			decodesNot(t, ahead+size+"\r\n", api.ErrLong)
			decodesNot(t, ahead+size+"\r\n"+full+full, api.ErrLong)
			decodesNot(t, ahead+size+"\r", api.ErrMore)
			decodesNot(t, ahead+size+"\n", api.ErrText)
			decodesNot(t, ahead+size+" \r\n", api.ErrText)
		}
		if left > 0 {
			size := strconv.FormatInt(left, 16)
			decodesNot(t, ahead+size+"\r\n", api.ErrMore)
			s := ahead + size + ";n\r\n" + full[cut:] + "\r\n0\r\n\r\n"
			decodes(t, s+"x", full, len(s), api.OK)
			decodesNot(t, strings.TrimSuffix(s, "0\r\n\r\n")+"1\r\n", api.ErrLong)
		}
		// A chunk of no bytes is no more.
		decodesNot(t, ahead+"0\r\n", api.ErrMore)
		decodes(t, ahead+"0\r\n\r\n", full[:cut], len(ahead)+5, api.OK)
	}
	ones := strings.Repeat("1\r\na\r\n", 32768)
	decodes(t, ones+"0\r\n\r\n", strings.Repeat("a", 32768), len(ones)+5, api.OK)
	decodesNot(t, ones+"1\r\n", api.ErrLong)
	decodesNot(t, ones+"1\r\na\r\n0\r\n\r\n", api.ErrLong)
	decodesNot(t, ones, api.ErrMore)
}

// trailersOf are n trailers that layer 9 reads, of size bytes with their empty line.
func trailersOf(n, size int) string {
	s := strings.Repeat("A:b\n", n-1)
	return s + "A:" + strings.Repeat("v", size-len(s)-4) + "\n\n"
}

func TestCu2DecodeTrailers(t *testing.T) {
	for _, ahead := range []string{"0\r\n", "0;x\r\n", "3\r\nabc\r\n000\r\n", strings.TrimSuffix(encodeOf(some(32768)), "\r\n")} {
		body, _, _ := decodeOf(ahead + "\r\n")
		for _, n := range []int{1, 2, 63, 64} {
			for _, size := range []int{4 * n, 4*n + 1, 4096, 8191, 8192} {
				if size < 4*n {
					continue
				}
				s := ahead + trailersOf(n, size)
				decodes(t, s, body, len(s), api.OK)
				decodes(t, s+some(9000), body, len(s), api.OK)
				decodesNot(t, s[:len(s)-1], api.ErrMore)
			}
			for _, size := range []int{8193, 8194, 9000, 1 << 16} {
				decodesNot(t, ahead+trailersOf(n, size), api.ErrLong)
			}
		}
		for _, n := range []int{65, 66, 200} {
			decodesNot(t, ahead+trailersOf(n, 4*n), api.ErrLong)
		}
		decodesNot(t, ahead+strings.Repeat("x", 8192), api.ErrMore)
		decodesNot(t, ahead+strings.Repeat("x", 8193), api.ErrLong)
		for _, wrong := range []string{"A\n", "A : b\r\n", " A: b\n", "\t\n", ": b\n", " \r\n", "A: b\x00\n", "A: b\rc\n", "\r\r\n", "0\r\n", "3\r\nabc\r\n"} {
			for _, behind := range []string{"", "\r\n", "x", strings.Repeat("z", 9000)} {
				decodesNot(t, ahead+wrong+behind, api.ErrText)
				decodesNot(t, ahead+"A: b\r\n"+wrong+behind, api.ErrText)
			}
		}
		// The first line that is wrong is told, as layer 9 tells it.
		decodesNot(t, ahead+"A\n"+trailersOf(65, 8193), api.ErrText)
		decodesNot(t, ahead+strings.TrimSuffix(trailersOf(65, 300), "\n")+"A\n", api.ErrLong)
		decodesNot(t, ahead+strings.TrimSuffix(trailersOf(64, 300), "\n")+"A\n", api.ErrText)
	}
}

func TestCu2DecodeEveryByte(t *testing.T) {
	for _, form := range []string{"@\r\n\r\n", "@", "@\r\n", "3@\r\nabc\r\n0\r\n\r\n", "@3\r\nabc\r\n0\r\n\r\n", "3\r@abc\r\n0\r\n\r\n", "3@\nabc\r\n0\r\n\r\n", "3\r\n@bc\r\n0\r\n\r\n", "3\r\nab@\r\n0\r\n\r\n", "3\r\nabc@\n0\r\n\r\n", "3\r\nabc\r@0\r\n\r\n", "3\r\nabc@", "3\r\nabc\r@", "3\r\nabc\r\n@\r\n\r\n", "3\r\nabc\r\n0@\r\n\r\n", "3\r\nabc\r\n0\r\n@\r\n", "3\r\nabc\r\n0\r\n\r@", "3\r\nabc\r\n0\r\n@", "3\r\nabc\r\n0\r\nA@: b\r\n\r\n", "3\r\nabc\r\n0\r\nA: b@\r\n\r\n", "3;@\r\nabc\r\n0\r\n\r\n", "3;x@y\r\nabc\r\n0;@\r\n\r\n", "0\r\n\r\n@", "@@@@"} {
		for c := range 256 {
			decodesAs(t, strings.ReplaceAll(form, "@", byteText(c)))
		}
	}
}

func TestCu2DecodeShort(t *testing.T) {
	told := map[api.Errno]int{}
	count := func(s string) { told[decodesAs(t, s)]++ }
	grown("", 6, []string{"0", "1", ";", "\r", "\n", "a"}, count)
	grown("", 6, []string{"0\r\n", "1\r\n", "\r\n", "2", "x", "\n", "A:"}, count)
	grown("1\r\n", 5, []string{"0", "2", "\r\n", "\r", "\n", ";", "x"}, count)
	grown("2\r\nab\r\n", 6, []string{"0", "\r\n", "A: b", "8000", "\n", "\r"}, count)
	for _, e := range []api.Errno{api.OK, api.ErrLong, api.ErrText, api.ErrMore} {
		if told[e] < 500 {
			t.Errorf("only %d texts of error %d", told[e], e)
		}
	}
}

// A body with one sign put in, taken out and changed for another, and bodies cut off.
func TestCu2DecodeChanged(t *testing.T) {
	for _, s := range []string{"3;x\r\nabc\r\n0A\r\n0123456789\r\n0;y\r\nT: v\r\nA:b\n\r\nz", "1\r\n\r\r\n2\r\n0\n\r\n00\r\n\n\n"} {
		for i := range len(s) {
			decodesAs(t, s[:i])
			decodesAs(t, s[i:])
			decodesAs(t, s[:i]+s[i+1:])
			for c := range 256 {
				decodesAs(t, s[:i]+byteText(c)+s[i:])
				decodesAs(t, s[:i]+byteText(c)+s[i+1:])
			}
		}
	}
}

func TestCu2DecodeMixed(t *testing.T) {
	parts := []string{"0\r\n", "1\r\n", "3\r\nabc\r\n", "a\r\n1234567890\r\n", "4000\r\n" + some(0x4000) + "\r\n", "3001;n\r\n" + some(0x3001) + "\r\n", "\r\n", "x\r\n", "A: b\r\n", "1;" + strings.Repeat("n", 254) + "\r\n", strings.Repeat("y", 257), "\n", "\r", "FF\r\n" + some(255) + "\r\n"}
	rule := rand.New(rand.NewSource(10))
	told := map[api.Errno]int{}
	for range 5000 {
		s := ""
		for range rule.Intn(6) {
			s += parts[2+rule.Intn(4)]
		}
		for range rule.Intn(3) {
			s += parts[rule.Intn(len(parts))]
		}
		if rule.Intn(2) == 0 {
			s += "0\r\n\r\n"
		}
		told[decodesAs(t, s)]++
	}
	for _, e := range []api.Errno{api.OK, api.ErrLong, api.ErrText, api.ErrMore} {
		if told[e] < 100 {
			t.Errorf("only %d texts of error %d", told[e], e)
		}
	}
}

// samples are pieces of at most 32768 bytes in all.
func samples() [][]string {
	all := [][]string{nil, {""}, {"", ""}, {some(32768)}, {some(1), some(32767)}, {some(16384), "", some(16384)}, strings.Split(some(3000), ""), {"0\r\n\r\n", "3\r\nabc\r\n"}, {"\r\n", "\n", "\r"}}
	for n := range 300 {
		all = append(all, []string{some(n)}, []string{some(n), "", some(2 * n), "x"})
	}
	grown("", 4, []string{"0", "\r", "\n", ";", "a"}, func(s string) { all = append(all, []string{s}, []string{s, s}, []string{"x", s}) })
	return all
}

func TestCu3DecodeOfEncode(t *testing.T) {
	for _, texts := range samples() {
		b, e := Encode(pieces(texts...))
		if e != api.OK {
			t.Fatalf("Encode(%.80q): error %d", texts, e)
		}
		for _, rest := range []string{"", "x", "\r", "\n", "\r\n", "0\r\n\r\n", "A: b\r\n\r\n", some(300), strings.Repeat("\n", 9000)} {
			decodes(t, string(b)+rest, strings.Join(texts, ""), len(b), api.OK)
		}
	}
}

func TestCu3Beginning(t *testing.T) {
	for _, texts := range samples() {
		b, _ := Encode(pieces(texts...))
		for i := range b {
			if len(b) > 5000 && i%97 != 0 && i > 300 && len(b)-i > 300 {
				continue
			}
			if body, n, e := Decode(b[:i]); len(body) != 0 || n != 0 || e != api.ErrMore {
				t.Fatalf("Decode of %d bytes of %d = %.80q, %d, error %d, want ErrMore", i, len(b), body, n, e)
			}
		}
	}
}

// apart tells whether two lists lie in other memory, their room behind the end too.
func apart(x, y []byte) bool {
	if cap(x) == 0 || cap(y) == 0 {
		return true
	}
	one, two := uintptr(unsafe.Pointer(unsafe.SliceData(x))), uintptr(unsafe.Pointer(unsafe.SliceData(y)))
	return one >= two+uintptr(cap(y)) || two >= one+uintptr(cap(x))
}

// What is handed in isn't changed, nor what lies behind its end, nor does that count.
func TestR3Arguments(t *testing.T) {
	b := []byte("3;x\r\nabc\r\n1\r\nd\r\n0\r\nT: v\r\n\r\n0\r\n\r\n")
	kept := bytes.Clone(b)
	for n := range b {
		decodesSame := func(want string, size int, errno api.Errno) {
			if body, m, e := Decode(b[:n]); string(body) != want || m != size || e != errno {
				t.Errorf("Decode of %d bytes with more behind them = %q, %d, error %d, want error %d", n, body, m, e, errno)
			}
		}
		decodesSame(decodeOf(string(kept[:n])))
		all := [][]byte{b[:n:n], b[:n], b[n:n], []byte("behind")}
		if got, e := Encode(all[:2]); string(got) != encodeOf(string(kept[:n]), string(kept[:n])) || e != api.OK {
			t.Errorf("Encode of %d bytes with more behind them = %q, error %d", n, got, e)
		}
		if !bytes.Equal(b, kept) || string(all[3]) != "behind" || len(all[0]) != n {
			t.Fatalf("an argument of %d bytes was changed", n)
		}
	}
}

// No answer shares memory with another one or with an argument, its spare room neither.
func TestR3Answers(t *testing.T) {
	for _, texts := range samples() {
		given := pieces(texts...)
		one, _ := Encode(given)
		two, _ := Encode(given)
		first, _, _ := Decode(one)
		second, _, _ := Decode(one)
		answers := [][]byte{one, two, first, second}
		for i, x := range answers {
			for _, y := range slices.Concat(answers[:i], given) {
				if !apart(x, y) {
					t.Fatalf("an answer of %.80q shares memory", texts)
				}
			}
		}
		clear(one[:cap(one)])
		clear(first[:cap(first)])
		if string(two) != encodeOf(texts...) || string(second) != strings.Join(texts, "") || !slices.EqualFunc(given, texts, func(b []byte, s string) bool { return string(b) == s }) {
			t.Fatalf("%.80q was turned by an answer", texts)
		}
	}
}

func TestR1Large(t *testing.T) {
	const size = 1 << 20
	for _, piece := range []string{"a", "0", "\r", "\n", "\r\n", ";", "\x00", "\xff", "1\r\na\r\n", "0\r\n\r\n", "0\r\n", "8000\r\n", "1\r\n", "3;", "A: b\r\n", ""} {
		s := strings.Repeat(piece, size)
		decodesAs(t, s)
		saysAs(t, s)
		decodesAs(t, "0\r\n"+s)
		decodesAs(t, "8000\r\n"+s)
	}
	if b, e := Encode(make([][]byte, size)); string(b) != "0\r\n\r\n" || e != api.OK {
		t.Errorf("Encode of %d empty pieces = %.80q, error %d", size, b, e)
	}
}
