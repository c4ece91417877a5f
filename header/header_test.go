package header

import (
	"bytes"
	"regexp"
	"slices"
	"strconv"
	"strings"
	"testing"
	"unsafe"

	"lantern/api"
)

// What this file reads headers by. (A pattern's class that leaves bytes out has all bytes above 127.)
var (
	tokens = regexp.MustCompile("^[-!#$%&'*+.^_`|~0-9A-Za-z]+$")
	values = regexp.MustCompile(`^([^\x00-\x20\x7f]([^\x00-\x08\x0a-\x1f\x7f]*[^\x00-\x20\x7f])?)?$`)
	line   = regexp.MustCompile("^([-!#$%&'*+.^_`|~0-9A-Za-z]+):[ \t]*(|[^\\x00-\\x20\\x7f]|[^\\x00-\\x20\\x7f][^\\x00-\\x08\\x0a-\\x1f\\x7f]*[^\\x00-\\x20\\x7f])[ \t]*\r?\n$")
)

// checkOf is what Check is to tell.
func checkOf(l []api.Header) api.Errno {
	for _, h := range l {
		if !tokens.MatchString(h.Name) || !values.MatchString(h.Value) {
			return api.ErrArg
		}
	}
	if len(l) > 64 || len(printOf(l)) > 8192 {
		return api.ErrLong
	}
	return api.OK
}

// printOf is headers put together, whether they may be or not.
func printOf(l []api.Header) string {
	s := ""
	for _, h := range l {
		s += strings.Join([]string{h.Name, ": ", h.Value, "\r\n"}, "")
	}
	return s + "\r\n"
}

// parseOf is what Parse is to tell, by this file's pattern of a line.
func parseOf(s string) (l []api.Header, n int, e api.Errno) {
	for _, x := range strings.SplitAfter(s, "\n") {
		if !strings.HasSuffix(x, "\n") {
			break
		}
		n += len(x)
		if n > 8192 {
			return nil, 0, api.ErrLong
		}
		if x == "\n" || x == "\r\n" {
			return l, n, api.OK
		}
		p := line.FindStringSubmatch(x)
		if p == nil {
			return nil, 0, api.ErrText
		}
		if len(l) == 64 {
			return nil, 0, api.ErrLong
		}
		l = append(l, api.Header{Name: p[1], Value: p[2]})
	}
	if len(s) > 8192 {
		return nil, 0, api.ErrLong
	}
	return nil, 0, api.ErrMore
}

// list is headers of names and values, one behind the other.
func list(texts ...string) []api.Header {
	var l []api.Header
	for x := range slices.Chunk(texts, 2) {
		l = append(l, api.Header{Name: x[0], Value: x[1]})
	}
	return l
}

// many is n headers, no two alike.
func many(n int) []api.Header {
	l := make([]api.Header, n)
	for i := range l {
		l[i] = api.Header{Name: "N" + strconv.Itoa(i), Value: strconv.Itoa(i * i)}
	}
	return l
}

// filled is headers whose last one's value is filled up till they have size bytes, put together.
func filled(l []api.Header, size int) []api.Header {
	l = slices.Clone(l)
	l[len(l)-1].Value += strings.Repeat("v", size-len(printOf(l)))
	return l
}

// grown calls f on every text of at most size pieces behind head.
func grown(head string, size int, pieces []string, f func(s string)) {
	f(head)
	if size == 0 {
		return
	}
	for _, p := range pieces {
		grown(head+p, size-1, pieces, f)
	}
}

// checks holds Check and Print of headers against what they are to tell.
func checks(t *testing.T, l []api.Header, want api.Errno) {
	t.Helper()
	if e := Check(l); e != want {
		t.Errorf("Check(%.80q), of %d: error %d, want %d", l, len(l), e, want)
	}
	b, e := Print(l)
	if e != want {
		t.Errorf("Print(%.80q), of %d: error %d, want %d", l, len(l), e, want)
	}
	if want != api.OK && len(b) != 0 {
		t.Errorf("Print(%.80q), of %d, tells %.80q beside an error", l, len(l), b)
	}
	if want == api.OK && string(b) != printOf(l) {
		t.Errorf("Print(%.80q), of %d = %.80q, want %.80q", l, len(l), b, printOf(l))
	}
}

// parses holds Parse of a text against what it is to tell.
func parses(t *testing.T, s string, want []api.Header, size int, errno api.Errno) {
	t.Helper()
	l, n, e := Parse([]byte(s))
	if !slices.Equal(l, want) || n != size || e != errno {
		t.Errorf("Parse(%.80q), of %d bytes = %.80q, %d, error %d, want %.80q, %d, error %d", s, len(s), l, n, e, want, size, errno)
	}
}

// parsesAs holds Parse of a text against this file's pattern, and tells whether headers are read.
func parsesAs(t *testing.T, s string) bool {
	t.Helper()
	l, n, e := parseOf(s)
	parses(t, s, l, n, e)
	return e == api.OK
}

func parsesNot(t *testing.T, s string, want api.Errno) {
	t.Helper()
	parses(t, s, nil, 0, want)
	if _, _, e := parseOf(s); e != want {
		t.Errorf("this file's pattern tells error %d of %.80q, of %d bytes, want %d", e, s, len(s), want)
	}
}

func TestHe1TokenEveryByte(t *testing.T) {
	const signs = "!#$%&'*+-.^_`|~0123456789ABCDEFGHIJKLMNOPQRSTUVWXYZabcdefghijklmnopqrstuvwxyz"
	if len(signs) != 15+10+26+26 {
		t.Fatalf("%d signs", len(signs))
	}
	is := func(c int) bool { return slices.Contains([]byte(signs), byte(c)) }
	for c := range 256 {
		s := string([]byte{byte(c)})
		for _, x := range []string{s, "a" + s, s + "a", "a" + s + "b", s + s, strings.Repeat("x-y", 300) + s} {
			if got := Token(x); got != is(c) {
				t.Errorf("Token(%.40q) = %v", x, got)
			}
		}
		for d := range 256 {
			s := string([]byte{byte(c), byte(d)})
			if got := Token(s); got != (is(c) && is(d)) {
				t.Errorf("Token(%q) = %v", s, got)
			}
		}
	}
}

func TestHe1Token(t *testing.T) {
	for _, s := range []string{"a", "Z", "0", "'", "`", "Content-Length", "x-y", "!#$%&'*+-.^_`|~", "~", strings.Repeat("t", 1<<20)} {
		if !Token(s) {
			t.Errorf("Token(%.40q) = false", s)
		}
	}
	for _, s := range []string{"", " ", "\t", "a b", " a", "a ", "a:", ":", "a\r", "a\n", "\x00", "a\x00", "a/b", "a\"", "(a)", "a,b", "a;b", "<a>", "a=b", "a?b", "a@b", "[a]", "a\\b", "{a}", "\x7f", "é", "ａ", "\xff", "\u017f", "\u212a", strings.Repeat("t", 1<<20) + " "} {
		if Token(s) {
			t.Errorf("Token(%.40q) = true", s)
		}
	}
}

func TestHe1Check(t *testing.T) {
	for _, l := range [][]api.Header{
		nil, {}, list("A", "b"), list("A", ""), list("A", "b", "A", "b", "a", "c"), list("A", "b c"), list("A", "b\tc"), list("A", "b \t c"), list("A", ":"), list("A", "b: c"), list("!", "é"), list("x", "\xff\xfe\x80"), list("0", "\u00a0"), list("x", "\u0085 \u2028"), many(64),
	} {
		checks(t, l, api.OK)
	}
	for _, h := range list("", "", "", "b", "A ", "b", " A", "b", "A:", "b", ":", "b", "A B", "b", "A\r\nB", "b", "é", "b", "\xff", "b", "(", "b",
		"A", " ", "A", "\t", "A", " b", "A", "b ", "A", "\tb", "A", "b\t", "A", "b\r", "A", "b\n", "A", "\rb", "A", "\nb", "A", "b\r\nC: d", "A", "b\nc", "A", "b\rc", "A", "\x00", "A", "b\x00c", "A", "b\x7f", "A", "\x7f", "A", "b\x1fc", "A", "b\x0bc") {
		checks(t, []api.Header{h}, api.ErrArg)
		// Wherever it stands.
		for i := range 4 {
			checks(t, slices.Insert(many(3), i, h), api.ErrArg)
		}
	}
}

func TestHe1CheckEveryByte(t *testing.T) {
	for c := range 256 {
		s := string([]byte{byte(c)})
		for _, x := range []string{s, s + "a", "a" + s, "a" + s + "b", "é" + s + "\xff"} {
			for _, l := range [][]api.Header{list(x, "b"), list("A", x), list("A", "b", x, "c"), list("A", "b", "C", x)} {
				checks(t, l, checkOf(l))
			}
		}
	}
}

func TestHe1CheckShort(t *testing.T) {
	pieces := []string{" ", "\t", "a", ":", "\r", "\n", "\x7f", "\x80", "é", "\x1f"}
	grown("", 4, pieces, func(s string) {
		checks(t, list("A", s), checkOf(list("A", s)))
		checks(t, list(s, "b"), checkOf(list(s, "b")))
	})
}

func TestHe1CheckMany(t *testing.T) {
	for _, n := range []int{0, 1, 62, 63, 64} {
		checks(t, many(n), api.OK)
	}
	for _, n := range []int{65, 66, 128, 129, 256, 320, 1000} {
		checks(t, many(n), api.ErrLong)
		checks(t, slices.Repeat(list("A", ""), n), api.ErrLong)
	}
}

func TestHe1CheckLong(t *testing.T) {
	for _, l := range [][]api.Header{list("A", ""), list("A", "b", "C", ""), many(63), many(64), list(strings.Repeat("n", 4000), "")} {
		for _, size := range []int{4096, 8191, 8192} {
			checks(t, filled(l, size), api.OK)
		}
		for _, size := range []int{8193, 8194, 8195, 8196, 8208, 16384, 1 << 16, 1 << 20} {
			checks(t, filled(l, size), api.ErrLong)
		}
	}
	// A name's bytes count, too.
	checks(t, list(strings.Repeat("n", 8186), ""), api.OK)
	checks(t, list(strings.Repeat("n", 8187), ""), api.ErrLong)
	// Bytes, not runes.
	checks(t, list("A", strings.Repeat("é", 4092)+"b"), api.OK)
	checks(t, list("A", strings.Repeat("é", 4093)), api.ErrLong)
}

// Of several faults a header that may not be is told first, wherever it stands.
func TestHe1CheckFirstError(t *testing.T) {
	for _, wrong := range list("", "b", "A B", "", "A", " b", "A", "b\n", "A", strings.Repeat("b", 8192)+" ", strings.Repeat("n", 8192)+":", "b") {
		for _, l := range [][]api.Header{many(64), many(65), many(200), filled(many(3), 8193), filled(many(65), 8193)} {
			for _, i := range []int{0, 1, len(l) - 1, len(l)} {
				checks(t, slices.Insert(slices.Clone(l), i, wrong), api.ErrArg)
			}
		}
	}
}

func TestHe1Print(t *testing.T) {
	for want, l := range map[string][]api.Header{
		"\r\n":                              nil,
		"A: b\r\n\r\n":                      list("A", "b"),
		"A: \r\n\r\n":                       list("A", ""),
		"A: b\r\nc: d\r\n\r\n":              list("A", "b", "c", "d"),
		"c: d\r\nA: b\r\n\r\n":              list("c", "d", "A", "b"),
		"a: 1\r\nA: 2\r\na: 1\r\n\r\n":      list("a", "1", "A", "2", "a", "1"),
		"X-y: a  \t b: c\r\n\r\n":           list("X-y", "a  \t b: c"),
		"!: \xff\xc3\xa9\r\n\r\n":           list("!", "\xffé"),
		"Content-Length: 3\r\nX: :\r\n\r\n": list("Content-Length", "3", "X", ":"),
	} {
		if b, e := Print(l); string(b) != want || e != api.OK {
			t.Errorf("Print(%q) = %q, error %d, want %q", l, b, e, want)
		}
	}
}

func TestHe1Parse(t *testing.T) {
	for s, want := range map[string][]api.Header{
		// The empty line alone, and what is behind it.
		"\n": nil, "\r\n": nil, "\n\n": nil, "\r\n\r\n": nil, "\nA: b\n\n": nil, "\r\nx": nil, "\n:": nil, "\n \n": nil,

		// The document's.
		"A: b\r\n\r\n":                 list("A", "b"),
		"A: b \r\nc:d\n\r\nx":          list("A", "b", "c", "d"),
		"A: b\r\n\r\nA : b\r\n\r\n":    list("A", "b"),
		"A: b\r\n\nc: d\r\n\r\n":       list("A", "b"),
		"A: b\n\r\n\x00":               list("A", "b"),
		"A: b\nA: b\na: b\n\n":         list("A", "b", "A", "b", "a", "b"),
		"!#$%&'*+-.^_`|~: b\n\n":       list("!#$%&'*+-.^_`|~", "b"),
		"A:b:c\n\n":                    list("A", "b:c"),
		"A:: b\n\n":                    list("A", ": b"),
		"A::\n\n":                      list("A", ":"),
		"A: \xff\xfe é\n\n":            list("A", "\xff\xfe é"),
		"A:\u00a0b\u00a0\n\n":          list("A", "\u00a0b\u00a0"),
		"A:\u0085\u2028\n\n":           list("A", "\u0085\u2028"),
		"A:b\tc d \t e\n\n":            list("A", "b\tc d \t e"),
		"Content-Length: 3\r\n\r\nabc": list("Content-Length", "3"),

		// Blanks and tabs around the value, and a value that is empty.
		"A:\n\n": list("A", ""), "A:\r\n\n": list("A", ""), "A: \n\n": list("A", ""), "A:\t\r\n\n": list("A", ""), "A: \t \t\r\n\r\n": list("A", ""),
		"A:b\n\n": list("A", "b"), "A:  b\n\n": list("A", "b"), "A:\tb\n\n": list("A", "b"), "A: \t b \t \r\n\n": list("A", "b"), "A:b\t\n\n": list("A", "b"), "A:b  \r\n\n": list("A", "b"),
	} {
		l, n, e := parseOf(s)
		if !slices.Equal(l, want) || e != api.OK {
			t.Errorf("this file's pattern makes %q of %q, error %d", l, s, e)
		}
		parses(t, s, want, n, api.OK)
	}
}

// How many bytes the headers are, their empty line too, whatever follows.
func TestHe1ParseSize(t *testing.T) {
	for s, want := range map[string]int{"\n": 1, "\r\n": 2, "A:\n\n": 4, "A:\r\n\n": 5, "A:\n\r\n": 5, "A: b\r\n\r\n": 8, "A: b \r\nc:d\n\r\n": 13} {
		l, _, _ := parseOf(s)
		for _, rest := range []string{"", "x", "\n", "\r\n", "\r", "A: b\r\n\r\n", " ", "\x00", strings.Repeat("x", 8192), strings.Repeat("\n", 8193), strings.Repeat("A: b\n", 100)} {
			parses(t, s+rest, l, want, api.OK)
		}
	}
}

func TestHe1ParseWrong(t *testing.T) {
	for _, wrong := range []string{
		// No `:` right behind a token.
		"a", "A b", "A : b", "A\t: b", "A b: c", "A", "A=b", "A;b", " ", "\t", "A\": b", "(A): b", "A/: b", "é: b", "\xff: b", "A\x00: b", "A\x7f: b", "A@b: c", "A\r: b",

		// No name.
		":", ": b", "::", ":b:c",

		// A line that begins with a blank or tab.
		" A: b", "\tA: b", " : b", " b", "  ",

		// A value that may not be.
		"A: \x00", "A: b\x00c", "A:\x01", "A: b\x1f", "A: \x0b", "A:\x0cb", "A: \x7f", "A: b\x7fc", "A: b\rc", "A:\rb", "A: \r b",

		// A carriage return more.
		"\r", "A: b\r", "A:\r", "\r\r", "A: b \r", "A: b\r ", "\rA: b", "A\r",
	} {
		for _, end := range []string{"\r\n", "\n"} {
			if end == "\n" && strings.HasSuffix(wrong, "\r") {
				continue // that is the line's own end
			}
			for _, ahead := range []string{"", "A: b\r\n", "A: b\nc:d\r\n"} {
				for _, behind := range []string{"", "\r\n", "\n", "x", "C: d\r\n\r\n", strings.Repeat("y", 9000), ":\n"} {
					parsesNot(t, ahead+wrong+end+behind, api.ErrText)
				}
			}
		}
	}
}

func TestHe1ParseMore(t *testing.T) {
	for _, s := range []string{
		"", "\r", "A", "A:", "A: b", "A: b\r", "A: b\n", "A: b\r\n", "A: b\r\n\r", "A: b\nc", "A: b\nc:d\n", "A: b\r\nc: d\r\n\r",
		// What is wrong is not looked at ahead of its line feed.
		":", " ", " A: b", "A : b", "\x00", "\r\r", "A: b\x7f", "A: b\r\n x", "A: b\r\n\r\r", "A: b\nc", "é", strings.Repeat(" ", 8192), "A: b\n" + strings.Repeat(":", 8187),
	} {
		parsesNot(t, s, api.ErrMore)
	}
}

func TestHe1ParseEveryByte(t *testing.T) {
	for _, form := range []string{"@\n\n", "@\r\n\r\n", "@A: b\n\n", "A@: b\n\n", "A@B: b\n\n", "A:@\n\n", "A:@b\r\n\r\n", "A: b@\r\n\r\n", "A: b@c\r\n\r\n", "A: b\r@\r\n", "A: b\r\n@\r\n", "A: b\r\n\r@", "A: b@\n\n", "A: b\r\n@", "A: b\r\n\r\n@", "@: @\n@"} {
		for c := range 256 {
			parsesAs(t, strings.ReplaceAll(form, "@", string([]byte{byte(c)})))
		}
	}
}

func TestHe1ParseShort(t *testing.T) {
	read := 0
	count := func(s string) {
		if parsesAs(t, s) {
			read++
		}
	}
	grown("", 7, []string{"a", ":", " ", "\r", "\n"}, count)
	grown("", 5, []string{"A:", "b", "\t", " ", "\r\n", "\n", "\r", "\x7f", "é", ":"}, count)
	grown("A: b\r\n", 5, []string{"a", ":", "\t", "\r", "\n", "\x00"}, count)
	grown("A:b", 6, []string{"c:", " ", "\t", "\r\n", "\n", "\r"}, count)
	if read < 10000 {
		t.Errorf("only %d texts with headers", read)
	}
}

// Lines with one sign put in, taken out and changed for another.
func TestHe1ParseChanged(t *testing.T) {
	const s = "Host: a.b\r\nX-y:\t c d \n!:\r\n\r\nz"
	for i := range len(s) {
		parsesAs(t, s[:i]+s[i+1:])
		for c := range 256 {
			x := string([]byte{byte(c)})
			parsesAs(t, s[:i]+x+s[i:])
			parsesAs(t, s[:i]+x+s[i+1:])
		}
	}
}

func TestHe1ParseMany(t *testing.T) {
	for _, n := range []int{0, 1, 63, 64} {
		s := printOf(many(n))
		parses(t, s, many(n), len(s), api.OK)
		parses(t, s+printOf(many(64)), many(n), len(s), api.OK)
		parsesNot(t, strings.TrimSuffix(s, "\r\n"), api.ErrMore)
		parsesNot(t, strings.TrimSuffix(s, "\r\n")+"x", api.ErrMore)
		parsesNot(t, strings.TrimSuffix(s, "\r\n")+"x\n", api.ErrText)
	}
	for _, n := range []int{65, 66, 128, 200} {
		parsesNot(t, printOf(many(n)), api.ErrLong)
		parsesNot(t, strings.TrimSuffix(printOf(many(n)), "\r\n"), api.ErrLong)
	}
	full := strings.TrimSuffix(printOf(many(64)), "\r\n")
	// The 65th is one once its line feed is there, and if it is a header.
	parsesNot(t, full+"A: b", api.ErrMore)
	parsesNot(t, full+"A: b\r", api.ErrMore)
	parsesNot(t, full+"A: b\n", api.ErrLong)
	parsesNot(t, full+"A : b\n", api.ErrText)
	parsesNot(t, full+" A: b\n", api.ErrText)
	parsesNot(t, full+"\r\r\n", api.ErrText)
	parsesNot(t, full+"A: b\nA : b\n", api.ErrLong)
}

// long is a text of just size bytes: headers ahead, a line filled up, and what is behind.
func long(ahead, head, tail string, size int) string {
	return ahead + head + strings.Repeat("v", size-len(ahead+head+tail)) + tail
}

func TestHe1ParseLong(t *testing.T) {
	for _, ahead := range []string{"", "A: b\r\n", "A:\n", strings.TrimSuffix(printOf(many(63)), "\r\n")} {
		for _, end := range []string{"\r\n\r\n", "\n\n", "\r\n\n", "\n\r\n"} {
			for _, rest := range []string{"", "x", "\n", strings.Repeat("A: b\n", 2000)} {
				for _, size := range []int{4096, 8190, 8191, 8192} {
					s := long(ahead, "L:", end, size)
					l, n, e := parseOf(s)
					if n != size || e != api.OK {
						t.Fatalf("this file's pattern tells %d bytes of %d, error %d", n, size, e)
					}
					parses(t, s+rest, l, n, api.OK)
				}
				for _, size := range []int{8193, 8194, 8195, 8196, 9000, 1 << 16} {
					parsesNot(t, long(ahead, "L:", end, size)+rest, api.ErrLong)
				}
			}
		}
	}
}

// A line's length is looked at ahead of what it says, and of whether it is the 65th.
func TestHe1ParseLongFirst(t *testing.T) {
	full := strings.TrimSuffix(printOf(many(64)), "\r\n")
	for _, ahead := range []string{"", "A: b\r\n", full} {
		for _, wrong := range []string{"L :", " L:", "L", ":", "\x00:", "L:\x7f"} {
			parsesNot(t, long(ahead, wrong, "\n", 8191), api.ErrText)
			parsesNot(t, long(ahead, wrong, "\n", 8192), api.ErrText)
			parsesNot(t, long(ahead, wrong, "\n", 8192)+"\n", api.ErrText)
			parsesNot(t, long(ahead, wrong, "\r\n", 8192)+"x", api.ErrText)
			parsesNot(t, long(ahead, wrong, "\n", 8193), api.ErrLong)
			parsesNot(t, long(ahead, wrong, "\n", 8193)+"\n", api.ErrLong)
			parsesNot(t, long(ahead, wrong, "\r\n", 8193), api.ErrLong)
			parsesNot(t, long(ahead, wrong, "", 8192), api.ErrMore)
			parsesNot(t, long(ahead, wrong, "", 8193), api.ErrLong)
		}
	}
	// An empty line that ends behind them.
	parsesNot(t, long("", "L:", "\n", 8192)+"\n", api.ErrLong)
	parsesNot(t, long("", "L:", "\n", 8191)+"\r\n", api.ErrLong)
	parsesNot(t, long("", "L:", "\n", 8192)+"\r\n", api.ErrLong)
	// A line that is wrong, or the 65th, ahead of one that is too long.
	for _, rest := range []string{strings.Repeat("v", 9000), strings.Repeat("v", 9000) + "\n\n"} {
		parsesNot(t, "A: b\nA : b\nL:"+rest, api.ErrText)
		parsesNot(t, full+"A : b\nL:"+rest, api.ErrText)
		parsesNot(t, full+"A: b\n:\nL:"+rest, api.ErrLong)
		parsesNot(t, full+"L:"+rest, api.ErrLong)
	}
}

// Whatever b has at most 8192 bytes has more to come; whatever has more is too long.
func TestHe1ParseUnended(t *testing.T) {
	full := strings.TrimSuffix(printOf(many(64)), "\r\n")
	for _, ahead := range []string{"", "A: b\r\n", full} {
		for _, tail := range []string{"", "\r", ":", " "} {
			for _, size := range []int{8000, 8190, 8191, 8192} {
				parsesNot(t, long(ahead, "", tail, size), api.ErrMore)
			}
			for _, size := range []int{8193, 8194, 1 << 14, 1 << 16} {
				parsesNot(t, long(ahead, "", tail, size), api.ErrLong)
			}
		}
	}
	for _, size := range []int{8191, 8192} {
		parsesNot(t, long("", "L:", "\r\n", size), api.ErrMore)
		parsesNot(t, long("", "L:", "\r\n\r", size), api.ErrMore)
	}
	parsesNot(t, long("", "L:", "\r\n", 8192)+"\r", api.ErrLong)
	parsesNot(t, long("", "L:", "\r\n", 8192)+"x", api.ErrLong)
}

// What is read may be longer, put together, than it was.
func TestHe1ParseTight(t *testing.T) {
	s := long("A:b\n", "L:", "\n\n", 8192)
	l, n, e := Parse([]byte(s))
	if len(l) != 2 || n != 8192 || e != api.OK {
		t.Errorf("Parse of 8192 bytes: %d headers, %d bytes, error %d", len(l), n, e)
	}
	if e := Check(l); e != api.ErrLong {
		t.Errorf("Check of what was read: error %d", e)
	}
}

func TestHe2Get(t *testing.T) {
	l := list("A", "1", "b", "2", "a", "3", "X-Y", "", "x-y", "5", "É", "6", "k", "7", "", "8", "a b", " 9 ")
	for name, want := range map[string][]string{
		"a": {"1", "3"}, "A": {"1", "3"}, "b": {"2"}, "B": {"2"}, "x-y": {"", "5"}, "X-y": {"", "5"}, "É": {"6"}, "K": {"7"}, "": {"8"}, "A B": {" 9 "},
		// Nothing but letters of ASCII turns, and no part of a name is one.
		"é": nil, "\u212a": nil, "x": nil, "x-": nil, "x_y": nil, "a ": nil, " a": nil, "aa": nil, "a:": nil, "\xff": nil, "\x00": nil, "C": nil, "X\rY": nil, "!": nil,
	} {
		if got := All(l, name); !slices.Equal(got, want) {
			t.Errorf("All(%q) = %q, want %q", name, got, want)
		}
		first := ""
		if len(want) > 0 {
			first = want[0]
		}
		if v, ok := Get(l, name); v != first || ok != (len(want) > 0) {
			t.Errorf("Get(%q) = %q, %v, want %q", name, v, ok, first)
		}
	}
	if v, ok := Get(nil, "a"); v != "" || ok {
		t.Errorf("Get of none = %q, %v", v, ok)
	}
	if v, ok := Get(nil, ""); v != "" || ok {
		t.Errorf("Get of none = %q, %v", v, ok)
	}
	if got := All(nil, ""); len(got) != 0 {
		t.Errorf("All of none = %q", got)
	}
}

// turned is a byte's lower case.
func turned(c int) int {
	if 'A' <= c && c <= 'Z' {
		return c + 32
	}
	return c
}

func TestHe2EveryByte(t *testing.T) {
	for c := range 256 {
		for d := range 256 {
			have, name := "x"+string([]byte{byte(c)}), "X"+string([]byte{byte(d)})
			l, alike := list("n", "1", have, "2"), turned(c) == turned(d)
			if v, ok := Get(l, name); ok != alike || ok && v != "2" {
				t.Errorf("Get(%q, %q) = %q, %v", l, name, v, ok)
			}
			if got := All(l, name); len(got) == 1 != alike {
				t.Errorf("All(%q, %q) = %q", l, name, got)
			}
			if got := Without(l, []string{name}); len(got) == 1 != alike {
				t.Errorf("Without(%q, %q) = %q", l, name, got)
			}
			if got := Set(l, name, "3"); len(got) == 2 != alike || got[len(got)-1] != (api.Header{Name: name, Value: "3"}) {
				t.Errorf("Set(%q, %q) = %q", l, name, got)
			}
		}
	}
}

func TestHe2Set(t *testing.T) {
	l := list("A", "1", "b", "2", "a", "3", "C", "4")
	for _, x := range []struct {
		name, value string
		want        []api.Header
	}{
		{"a", "z", list("b", "2", "C", "4", "a", "z")},
		{"A", "", list("b", "2", "C", "4", "A", "")},
		{"B", "2", list("A", "1", "a", "3", "C", "4", "B", "2")},
		{"c", "4", list("A", "1", "b", "2", "a", "3", "c", "4")},
		{"D", "5", list("A", "1", "b", "2", "a", "3", "C", "4", "D", "5")},
		// It looks at no header, whether it may be.
		{"", "", list("A", "1", "b", "2", "a", "3", "C", "4", "", "")},
		{"a ", " z\n", list("A", "1", "b", "2", "a", "3", "C", "4", "a ", " z\n")},
	} {
		if got := Set(l, x.name, x.value); !slices.Equal(got, x.want) {
			t.Errorf("Set(%q, %q) = %q, want %q", x.name, x.value, got, x.want)
		}
		if got := Set(nil, x.name, x.value); !slices.Equal(got, list(x.name, x.value)) {
			t.Errorf("Set of none, %q = %q", x.name, got)
		}
	}
	if got := Set(list("A", "1", "a", "2"), "a", "3"); !slices.Equal(got, list("a", "3")) {
		t.Errorf("Set in place of all = %q", got)
	}
	// More than may be.
	if got := Set(many(64), "x", "y"); !slices.Equal(got, append(many(64), list("x", "y")...)) {
		t.Errorf("Set behind 64 = %q", got)
	}
}

func TestHe2Without(t *testing.T) {
	l := list("A", "1", "b", "2", "a", "3", "C", "4", "É", "5", "", "6", "b", "7")
	for _, x := range []struct {
		names []string
		want  []api.Header
	}{
		{nil, l},
		{[]string{}, l},
		{[]string{"x", "é", "ab", "a:", " ", "\xff"}, l},
		{[]string{"a"}, list("b", "2", "C", "4", "É", "5", "", "6", "b", "7")},
		{[]string{"A"}, list("b", "2", "C", "4", "É", "5", "", "6", "b", "7")},
		{[]string{"c", "B"}, list("A", "1", "a", "3", "É", "5", "", "6")},
		{[]string{"B", "c"}, list("A", "1", "a", "3", "É", "5", "", "6")},
		{[]string{"z", "c", "C", "y", "c", "a"}, list("b", "2", "É", "5", "", "6", "b", "7")},
		{[]string{""}, list("A", "1", "b", "2", "a", "3", "C", "4", "É", "5", "b", "7")},
		{[]string{"É", "", "C", "b", "A"}, nil},
	} {
		if got := Without(l, x.names); !slices.Equal(got, x.want) {
			t.Errorf("Without(%q) = %q, want %q", x.names, got, x.want)
		}
		if got := Without(nil, x.names); len(got) != 0 {
			t.Errorf("Without of none, %q = %q", x.names, got)
		}
	}
}

// Every set of names, in either order, out of headers of them all.
func TestHe2WithoutEverySet(t *testing.T) {
	l := many(10)
	for set := range 1 << len(l) {
		var names []string
		var want []api.Header
		for i, h := range l {
			if set>>i&1 == 1 {
				names = append(names, strings.ToLower(h.Name))
			} else {
				want = append(want, h)
			}
		}
		for range 2 {
			if got := Without(l, names); !slices.Equal(got, want) {
				t.Errorf("Without(%q) = %q, want %q", names, got, want)
			}
			slices.Reverse(names)
		}
	}
}

// samples are headers that may be.
func samples() [][]api.Header {
	all := [][]api.Header{nil, many(1), many(20), many(64), filled(many(1), 8192), filled(many(64), 8192), filled(list("A", "b\tc", "a", ""), 8191)}
	grown("", 4, []string{" ", "\t", "b", ":", "é", "\xff"}, func(s string) {
		if l := list("A", s, "x-y", "z"); Check(l) == api.OK {
			all = append(all, l, list("A", s), list("a", "", "B", s))
		}
	})
	return all
}

func TestHe3ParseOfPrint(t *testing.T) {
	for _, l := range samples() {
		b, e := Print(l)
		if e != api.OK {
			t.Fatalf("Print(%.80q): error %d", l, e)
		}
		for _, rest := range []string{"", "x", "\r\n", "A: b\r\n\r\n", strings.Repeat("\n", 9000)} {
			parses(t, string(b)+rest, l, len(b), api.OK)
		}
	}
}

func TestHe3Beginning(t *testing.T) {
	for _, l := range samples() {
		b, _ := Print(l)
		for i := range b {
			if l, n, e := Parse(b[:i]); len(l) != 0 || n != 0 || e != api.ErrMore {
				t.Fatalf("Parse of %d bytes of %d = %q, %d, error %d, want ErrMore", i, len(b), l, n, e)
			}
		}
	}
}

// apart tells whether a text lies outside of some bytes.
func apart(answer string, argument []byte) bool {
	if answer == "" || len(argument) == 0 {
		return true
	}
	from := uintptr(unsafe.Pointer(unsafe.SliceData(argument)))
	at := uintptr(unsafe.Pointer(unsafe.StringData(answer)))
	return at >= from+uintptr(len(argument)) || at+uintptr(len(answer)) <= from
}

// texts are headers' names and values.
func texts(l []api.Header) []string {
	var all []string
	for _, h := range l {
		all = append(all, h.Name, h.Value)
	}
	return all
}

func allApart(t *testing.T, name string, answers, arguments []string) {
	t.Helper()
	for _, x := range answers {
		for _, y := range arguments {
			if !apart(x, unsafe.Slice(unsafe.StringData(y), len(y))) {
				t.Errorf("%s's %q is a piece of what was handed in", name, x)
			}
		}
	}
}

func TestR3Texts(t *testing.T) {
	l := many(5)
	name, value := strings.Clone("n1"), strings.Clone("value")
	given := append(texts(l), name, value)
	v, _ := Get(l, name)
	allApart(t, "Get", []string{v}, given)
	allApart(t, "All", All(l, name), given)
	allApart(t, "Set", texts(Set(l, name, value)), given)
	allApart(t, "Without", texts(Without(l, []string{name})), given)
	b := []byte("A: b\r\nc: d\r\n\r\n")
	read, _, _ := Parse(b)
	for _, s := range texts(read) {
		if !apart(s, b) {
			t.Errorf("Parse's %q is a piece of what was handed in", s)
		}
	}
	clear(b)
	if !slices.Equal(read, list("A", "b", "c", "d")) {
		t.Errorf("what was read turned to %q", read)
	}
}

// What is handed in isn't changed, nor what lies behind its end, nor does that count.
func TestR3Arguments(t *testing.T) {
	room := append(many(5), list("A", "1", "b", "2", "a", "3")...)
	kept := slices.Clone(room)
	names := []string{"z", "N3", "a", "n1", "N2"}
	keptNames := slices.Clone(names)
	for n := range room {
		l := room[:n]
		Check(l)
		Print(l)
		Get(l, "N3")
		All(l, "N3")
		Set(l, "N3", "x")
		Set(l, "new", "x")
		Without(l, names[:4])
		if _, ok := Get(l, "b"); ok != (n > 6) {
			t.Errorf("Get among %d: %v", n, ok)
		}
		if !slices.Equal(room, kept) || !slices.Equal(names, keptNames) {
			t.Fatalf("an argument of %d was changed", n)
		}
	}
	if got := Without(room[:5], names[:4]); !slices.Equal(got, []api.Header{kept[0], kept[2], kept[4]}) {
		t.Errorf("Without of names with more behind them = %q", got)
	}
	b := []byte("A: b\r\n\r\nC: d\r\n\r\n")
	keptBytes := bytes.Clone(b)
	for n := range b {
		_, _, e := Parse(b[:n])
		if _, _, want := parseOf(string(b[:n])); e != want {
			t.Errorf("Parse of %d bytes with more behind them: error %d, want %d", n, e, want)
		}
		if !bytes.Equal(b, keptBytes) {
			t.Fatalf("an argument of %d bytes was changed", n)
		}
	}
}

// No answer shares memory with another one or with an argument, its spare room neither.
func TestR3Answers(t *testing.T) {
	for n := range 10 {
		l := append(many(n), many(10)...)[:n]
		one, two := Without(l, nil), Without(l, nil)
		spoil(one)
		first, second := Set(l, "x", "y"), Set(l, "x", "y")
		spoil(first)
		if !slices.Equal(l, many(n)) || !slices.Equal(two, many(n)) || !slices.Equal(second, append(many(n), list("x", "y")...)) {
			t.Errorf("%d headers were turned by an answer", n)
		}
		b, _ := Print(l)
		again, _ := Print(l)
		clear(b[:cap(b)])
		if string(again) != printOf(many(n)) {
			t.Errorf("%d headers: an answer of Print was turned by another one", n)
		}
		read, _, _ := Parse(again)
		other, _, _ := Parse(again)
		spoil(read)
		if !slices.Equal(other, many(n)) {
			t.Errorf("%d headers: an answer of Parse was turned by another one", n)
		}
	}
}

func spoil(l []api.Header) {
	clear(l[:cap(l)])
}

func TestR1Large(t *testing.T) {
	const size = 1 << 20
	for _, piece := range []string{"a", ":", "A:\n", "\r", " ", "\x00", "\xff", "a: b\r\n"} {
		s := strings.Repeat(piece, size)
		parsesAs(t, s)
		Check(list(s, s))
		Token(s)
		Set(list(s, s), s, s)
	}
	l := many(1 << 16)
	names := make([]string, len(l))
	for i, h := range l {
		names[i] = strings.ToLower(h.Name)
	}
	if got := Without(l, names); len(got) != 0 {
		t.Errorf("%d headers are left", len(got))
	}
	if got := Without(l, names[1:]); !slices.Equal(got, l[:1]) {
		t.Errorf("%d headers are left", len(got))
	}
	if e := Check(l); e != api.ErrLong {
		t.Errorf("Check of %d headers: error %d", len(l), e)
	}
}
