package entity

import (
	"fmt"
	"math/rand"
	"regexp"
	"strconv"
	"strings"
	"testing"
	"unicode/utf8"
	"unsafe"

	"lantern/api"
)

// What this file reads texts by.
var (
	standsNot  = regexp.MustCompile(`[^\t\n\r\x{20}-\x{D7FF}\x{E000}-\x{FFFD}\x{10000}-\x{10FFFF}]`)
	references = regexp.MustCompile(`&(?:(amp|lt|gt|quot|apos);|#([0-9]{1,7});|#x([0-9A-Fa-f]{1,6});)?`)
	lineEnds   = regexp.MustCompile(`\r\n?`)
)

// escapeOf is what Escape is to tell, by this file's patterns.
func escapeOf(s string) (string, api.Errno) {
	if !utf8.ValidString(s) {
		return "", api.ErrText
	}
	if standsNot.MatchString(s) {
		return "", api.ErrArg
	}
	return strings.NewReplacer("&", "&amp;", "<", "&lt;", ">", "&gt;", `"`, "&quot;", "'", "&apos;", "\r", "&#13;").Replace(s), api.OK
}

// unescapeOf is what Unescape is to tell, by this file's patterns.
func unescapeOf(s string) (string, api.Errno) {
	e := api.OK
	if !utf8.ValidString(s) {
		e = api.ErrText
	}
	s = references.ReplaceAllStringFunc(s, func(one string) string {
		p := references.FindStringSubmatch(one)
		var n uint64
		switch {
		case p[1] != "":
			return map[string]string{"amp": "&", "lt": "<", "gt": ">", "quot": `"`, "apos": "'"}[p[1]]
		case p[2] != "":
			n, _ = strconv.ParseUint(p[2], 10, 64)
		case p[3] != "":
			n, _ = strconv.ParseUint(p[3], 16, 64)
		}
		if !stands(n) {
			e = api.ErrText
			return ""
		}
		return string(rune(n))
	})
	if e != api.OK {
		return "", e
	}
	return s, api.OK
}

// stands tells whether the rune of that number may stand in XML, as chapter 1 counts them up.
func stands(n uint64) bool {
	return n == 9 || n == 10 || n == 13 || 0x20 <= n && n <= 0xD7FF || 0xE000 <= n && n <= 0xFFFD || 0x10000 <= n && n <= 0x10FFFF
}

// valueOf is what Value is to tell, by this file's patterns.
func valueOf(s string) (string, api.Errno) {
	return unescapeOf(strings.Map(func(r rune) rune {
		if r == '\t' || r == '\n' {
			return ' '
		}
		return r
	}, validOr(lineEnds.ReplaceAllString(s, "\n"))))
}

// validOr is a text that may be, or one that may not be in a way that a map of runes leaves as it is.
func validOr(s string) string {
	if utf8.ValidString(s) {
		return s
	}
	return "&"
}

// grown calls f on every text of at most size parts behind head.
func grown(head string, size int, parts []string, f func(s string)) {
	f(head)
	if size == 0 {
		return
	}
	for _, p := range parts {
		grown(head+p, size-1, parts, f)
	}
}

// A call is one of this layer that may refuse, and its name.
type call struct {
	name string
	run  func(string) (string, api.Errno)
	want func(string) (string, api.Errno)
}

var (
	escape   = call{"Escape", Escape, escapeOf}
	unescape = call{"Unescape", Unescape, unescapeOf}
	value    = call{"Value", Value, valueOf}
)

// is holds what a call, and this file's reader, tell of a text against what they are to tell.
func (c call) is(t *testing.T, s, want string) {
	t.Helper()
	c.told(t, s, want, api.OK)
}

func (c call) refuses(t *testing.T, s string, e api.Errno) {
	t.Helper()
	c.told(t, s, "", e)
}

func (c call) told(t *testing.T, s, want string, errno api.Errno) {
	t.Helper()
	if got, e := c.run(s); got != want || e != errno {
		t.Errorf("%s(%.80q) = %.80q, error %d, want %.80q, error %d", c.name, s, got, e, want, errno)
	}
	if got, e := c.want(s); got != want || e != errno {
		t.Errorf("%s(%.80q): this file's patterns make %.80q, error %d, want %.80q, error %d", c.name, s, got, e, want, errno)
	}
}

// as holds what a call tells of a text against what this file's patterns make of it.
func (c call) as(t *testing.T, s string) {
	t.Helper()
	got, e := c.run(s)
	if want, errno := c.want(s); got != want || e != errno {
		t.Errorf("%s(%.80q) = %.80q, error %d, want %.80q, error %d", c.name, s, got, e, want, errno)
	}
}

// allAs holds all four calls, and what follows of them, against this file's patterns.
func allAs(t *testing.T, s string) {
	t.Helper()
	escape.as(t, s)
	unescape.as(t, s)
	value.as(t, s)
	linesAs(t, s)
	follows(t, s)
}

func linesAs(t *testing.T, s string) {
	t.Helper()
	if got, want := Lines(s), string(lineEnds.ReplaceAll([]byte(s), []byte("\n"))); got != want {
		t.Errorf("Lines(%.80q) = %.80q, want %.80q", s, got, want)
	}
}

// follows holds a text against En3.
func follows(t *testing.T, s string) {
	t.Helper()
	written, e := Escape(s)
	if e != api.OK {
		return
	}
	if got, e := Unescape(written); got != s || e != api.OK {
		t.Errorf("Unescape of Escape(%.80q) = %.80q, error %d", s, got, e)
	}
	if got, e := Unescape(Lines(written)); got != s || e != api.OK {
		t.Errorf("Unescape of Lines of Escape(%.80q) = %.80q, error %d", s, got, e)
	}
}

func TestEn1Example(t *testing.T) {
	escape.is(t, "a<b", "a&lt;b")
	unescape.is(t, "&#x20AC;", "€")
	unescape.refuses(t, "&nbsp;", api.ErrText)
}

func TestEn1Escape(t *testing.T) {
	for _, c := range [][2]string{
		{"", ""}, {"a", "a"}, {"&", "&amp;"}, {"<", "&lt;"}, {">", "&gt;"}, {`"`, "&quot;"}, {"'", "&apos;"},
		{"\r", "&#13;"}, {"\n", "\n"}, {"\t", "\t"}, {"\r\n", "&#13;\n"}, {"\n\r", "\n&#13;"}, {"\r\r", "&#13;&#13;"},
		{"&amp;", "&amp;amp;"}, {"&#13;", "&amp;#13;"}, {"]]>", "]]&gt;"}, {"<a b='c'>\"&\"", "&lt;a b=&apos;c&apos;&gt;&quot;&amp;&quot;"},
		{"€<日本>\U0001F600&", "€&lt;日本&gt;\U0001F600&amp;"}, {"\uFFFD", "\uFFFD"}, {"\uD7FF\uE000\U00010000\U0010FFFF", "\uD7FF\uE000\U00010000\U0010FFFF"},
		{"\u0085\u00A0\u2028\x7F", "\u0085\u00A0\u2028\x7F"},
	} {
		escape.is(t, c[0], c[1])
	}
}

func TestEn1EscapeRefuses(t *testing.T) {
	for _, s := range []string{"\xff", "a\x80", "\xed\xa0\x80", "\xf4\x90\x80\x80", "\xc0\x80", "\xe2\x82", "<\xe2", "\xff\x00", "\x00\xff", "\uFFFE\xff", "\x01 \xc3", "\xc3\r"} {
		escape.refuses(t, s, api.ErrText)
	}
	for _, s := range []string{"\x00", "\x01", "\x08", "\x0b", "\x0c", "\x0e", "\x1f", "\uFFFE", "\uFFFF", "<\x00>", "&\x1b", "\r\uFFFE"} {
		escape.refuses(t, s, api.ErrArg)
	}
}

// every calls f on each number of a rune, on surrogates and on numbers behind the last rune.
func every(f func(n uint64)) {
	for n := range uint64(0x110800) {
		f(n)
	}
}

func TestEn1EscapeEveryRune(t *testing.T) {
	every(func(n uint64) {
		if n > 0x10FFFF || 0xD800 <= n && n <= 0xDFFF {
			return
		}
		s := "a" + string(rune(n)) + "b"
		got, e := Escape(s)
		switch {
		case !stands(n):
			if got != "" || e != api.ErrArg {
				t.Errorf("Escape(%q) = %q, error %d, want ErrArg", s, got, e)
			}
		case strings.ContainsRune("&<>\"'\r", rune(n)):
			escape.as(t, s)
		case got != s || e != api.OK:
			t.Errorf("Escape(%q) = %q, error %d, want it as it is", s, got, e)
		}
	})
}

func TestEn1UnescapeNames(t *testing.T) {
	for name, want := range map[string]string{"amp": "&", "lt": "<", "gt": ">", "quot": `"`, "apos": "'"} {
		one := "&" + name + ";"
		unescape.is(t, one, want)
		unescape.is(t, one+one, want+want)
		unescape.is(t, "a"+one+"b", "a"+want+"b")
		unescape.is(t, ";"+one+";", ";"+want+";")
		unescape.is(t, "€"+one+"€", "€"+want+"€")
		unescape.is(t, name+";", name+";")
		for i := range len(one) {
			cut := one[:i] + one[i+1:]
			if i == 0 {
				unescape.is(t, cut, cut)
			} else {
				unescape.refuses(t, cut, api.ErrText)
				unescape.refuses(t, one[:i]+one, api.ErrText)
				unescape.refuses(t, one[:i]+" "+one[i:], api.ErrText)
				unescape.refuses(t, one[:i]+"\n"+one[i:], api.ErrText)
			}
			if i <= len(name) {
				unescape.refuses(t, one[:i]+strings.ToUpper(one[i:]), api.ErrText)
			}
		}
		unescape.refuses(t, "&"+strings.ToUpper(name[:1])+name[1:]+";", api.ErrText)
		unescape.refuses(t, "&#"+name+";", api.ErrText)
		unescape.refuses(t, "&#x"+name+";", api.ErrText)
		unescape.refuses(t, "&"+name+name+";", api.ErrText)
		unescape.refuses(t, one+"&", api.ErrText)
	}
	for _, name := range []string{"", "nbsp", "copy", "euro", "am", "amps", "l", "ltt", "g", "quo", "quote", "apo", "aposs", "AMP", "a", "#", "x", "0", "13", "x41", "&", "€", "lt gt", "\x00"} {
		unescape.refuses(t, "&"+name+";", api.ErrText)
		unescape.refuses(t, "&"+name, api.ErrText)
	}
}

// What a reference is turned to begins no other one, and none is turned twice.
func TestEn1UnescapeOnce(t *testing.T) {
	unescape.is(t, "&amp;lt;", "&lt;")
	unescape.is(t, "&amp;amp;", "&amp;")
	unescape.is(t, "&#38;#38;", "&#38;")
	unescape.is(t, "&#x26;#x26;amp;", "&#x26;amp;")
	unescape.is(t, "&amp;", "&")
	unescape.is(t, "&amp;&lt;&gt;", "&<>")
	unescape.refuses(t, "&&amp;", api.ErrText)
	unescape.refuses(t, "&&lt;;", api.ErrText)
	unescape.refuses(t, "&am&amp;p;", api.ErrText)
	unescape.refuses(t, "&#3&#56;;", api.ErrText)
}

// What isn't of a reference is as it is, if it may not stand in XML, too.
func TestEn1UnescapeRest(t *testing.T) {
	for _, s := range []string{"", "a", "<", ">", `"`, "'", ";", "#", "#65;", "\r", "\r\n", "\t\n", "\x00", "\x1f\x7f", "\uFFFD", "\uFFFE", "\uFFFF", "amp;", "€", "\U0010FFFF", "\uD7FF\uE000", "]]>"} {
		unescape.is(t, s, s)
		unescape.is(t, s+"&lt;"+s, s+"<"+s)
		unescape.refuses(t, s+"&", api.ErrText)
		unescape.refuses(t, "& "+s, api.ErrText)
	}
	for _, s := range []string{"\xff", "\x80", "\xc3", "\xed\xa0\x80", "\xf4\x90\x80\x80", "\xc0\x80", "\xe2\x82"} {
		unescape.refuses(t, s, api.ErrText)
		unescape.refuses(t, "&lt;"+s, api.ErrText)
		unescape.refuses(t, s+"&lt;", api.ErrText)
		unescape.refuses(t, "&"+s+";", api.ErrText)
		unescape.refuses(t, "&nbsp;"+s, api.ErrText)
		unescape.refuses(t, "\uFFFD"+s, api.ErrText)
	}
	for n := range 1 << 7 {
		s := "a" + string(rune(n)) + "b"
		if n == '&' {
			unescape.refuses(t, s, api.ErrText)
		} else {
			unescape.is(t, s, s)
		}
	}
}

func TestEn1UnescapeEveryNumber(t *testing.T) {
	every(func(n uint64) {
		want, errno := string(rune(n)), api.OK
		if !stands(n) {
			want, errno = "", api.ErrText
		}
		for _, s := range []string{fmt.Sprintf("&#%d;", n), fmt.Sprintf("&#x%x;", n), fmt.Sprintf("&#x%06X;", n)} {
			if got, e := Unescape(s); got != want || e != errno {
				t.Errorf("Unescape(%q) = %q, error %d, want %q, error %d", s, got, e, want, errno)
			}
		}
	})
	for n := 0x110000; n <= 9999999; n += 997 {
		unescape.refuses(t, fmt.Sprintf("&#%d;", n), api.ErrText)
	}
	for n := 0x110000; n <= 0xFFFFFF; n += 997 {
		unescape.refuses(t, fmt.Sprintf("&#x%x;", n), api.ErrText)
	}
	unescape.refuses(t, "&#9999999;", api.ErrText)
	unescape.refuses(t, "&#xFFFFFF;", api.ErrText)
}

func TestEn1UnescapeDigits(t *testing.T) {
	for zeros := range 12 {
		for _, n := range []string{"9", "65", "233", "8364", "1114111"} {
			digits := strings.Repeat("0", zeros) + n
			if r, _ := strconv.Atoi(n); len(digits) <= 7 {
				unescape.is(t, "&#"+digits+";", string(rune(r)))
				unescape.is(t, "a&#"+digits+";1;", "a"+string(rune(r))+"1;")
			} else {
				unescape.refuses(t, "&#"+digits+";", api.ErrText)
			}
		}
		for _, n := range []string{"9", "d", "41", "e9", "20aC", "10ffFF"} {
			digits := strings.Repeat("0", zeros) + n
			if r, _ := strconv.ParseInt(n, 16, 32); len(digits) <= 6 {
				unescape.is(t, "&#x"+digits+";", string(rune(r)))
				unescape.is(t, "&#x"+strings.ToUpper(digits)+";", string(rune(r)))
			} else {
				unescape.refuses(t, "&#x"+digits+";", api.ErrText)
			}
		}
		unescape.refuses(t, "&#"+strings.Repeat("0", zeros)+";", api.ErrText)
		unescape.refuses(t, "&#x"+strings.Repeat("0", zeros)+";", api.ErrText)
	}
	// Numbers that would wrap round to a rune that may be.
	for _, digits := range []string{"4294967361", "18446744073709551681", "x100000041", "x10000000000000041"} {
		unescape.refuses(t, "&#"+digits+";", api.ErrText)
	}
	for _, s := range []string{"&#", "&#;", "&#x", "&#x;", "&#X41;", "&#65", "&#x41", "&#+65;", "&#-65;", "&# 65;", "&#65 ;", "&#6 5;", "&#6_5;", "&#x4_1;", "&#0x41;", "&#x+41;", "&#xx41;", "&#6a;", "&#a;", "&#x4g;", "&#6.0;", "&#65\n;", "&##65;", "&#&#65;", "&#٦;", "&#x６;", "& #65;", "&#1e1;", "&#x4.1;"} {
		unescape.refuses(t, s, api.ErrText)
	}
	for c := range 256 {
		for _, s := range []string{"&#6%s;", "&#%s5;", "&#x4%s;", "&#x%s1;", "&#%s41;", "&%s41;", "&#65%s", "&#x41%s", "&l%s;", "&%st;", "&lt%s", "%slt;"} {
			unescape.as(t, strings.Replace(s, "%s", string([]byte{byte(c)}), 1))
		}
	}
}

func TestEn2Lines(t *testing.T) {
	for _, c := range [][2]string{
		{"", ""}, {"a", "a"}, {"\n", "\n"}, {"\r", "\n"}, {"\r\n", "\n"}, {"\n\r", "\n\n"}, {"\r\r", "\n\n"}, {"\r\r\n", "\n\n"}, {"\r\n\n", "\n\n"},
		{"\r\n\r\n", "\n\n"}, {"\r\n\r", "\n\n"}, {"\n\r\n", "\n\n"}, {"a\r\nb\rc\nd", "a\nb\nc\nd"}, {"a\r", "a\n"}, {"\ra", "\na"},
		{"\r\t\n", "\n\t\n"}, {"\r \n", "\n \n"}, {"&#13;", "&#13;"}, {"&#13;\n", "&#13;\n"}, {"&\r;", "&\n;"}, {"€\r€", "€\n€"}, {"\u0085\u2028", "\u0085\u2028"},
		{"\xff\r\n\xff\r\xe2\x82", "\xff\n\xff\n\xe2\x82"}, {"\x00\r\x00", "\x00\n\x00"}, {"\uFFFD\r\xff", "\uFFFD\n\xff"}, {"\xe2\r\n", "\xe2\n"},
	} {
		if got := Lines(c[0]); got != c[1] {
			t.Errorf("Lines(%q) = %q, want %q", c[0], got, c[1])
		}
		linesAs(t, c[0])
	}
	grown("", 6, []string{"\r", "\n", "a", "\xff"}, func(s string) { linesAs(t, s) })
	for c := range 256 {
		linesAs(t, string([]byte{byte(c)}))
		linesAs(t, string([]byte{'\r', byte(c), '\n', byte(c), '\r', '\n'}))
	}
}

func TestEn2Value(t *testing.T) {
	for _, c := range [][2]string{
		{"", ""}, {"a", "a"}, {" ", " "}, {"\t", " "}, {"\n", " "}, {"\r", " "}, {"\r\n", " "}, {"\n\r", "  "}, {"\r\r\n", "  "}, {"\t\r\n\t", "   "}, {"\t\t", "  "},
		{"&#9;", "\t"}, {"&#10;", "\n"}, {"&#13;", "\r"}, {"&#xA;", "\n"}, {"&#xd;", "\r"}, {"&#13;&#10;", "\r\n"}, {"&#13;\n", "\r "}, {"\r&#10;", " \n"}, {"&#32;", " "},
		{"a\tb&#9;", "a b\t"}, {" a  b ", " a  b "}, {"&lt;\n&gt;", "< >"}, {"&amp;#9;", "&#9;"}, {"&quot;&apos;", `"'`}, {"<\"'>", "<\"'>"}, {"€\t€", "€ €"},
		{"\x00\x0b\x0c\t", "\x00\x0b\x0c "}, {"\u00A0\u0085\u2028", "\u00A0\u0085\u2028"}, {"\uFFFE\n", "\uFFFE "},
	} {
		value.is(t, c[0], c[1])
	}
	for _, s := range []string{"&", "&nbsp;", "&\n", "&\r\n", "&\t", "&#\r\n9;", "&#0;", "&#x0D\n;", "\xff", "\r\xff", "\xe2\t\x82", "a&b", "&#9", "&lt\r;", "\t&", "& ;", "&#xD800;", "&#xFFFE;"} {
		value.refuses(t, s, api.ErrText)
	}
	for n := range rune(1 << 7) {
		value.as(t, "a"+string(n)+"b")
		value.as(t, fmt.Sprintf("&#%d;%c", n, n))
	}
}

func TestEn1En2En3Grown(t *testing.T) {
	f := func(s string) { allAs(t, s) }
	grown("", 5, []string{"&", "lt", ";", "#", "x", "9", "\r", "\n"}, f)
	grown("", 4, []string{"&amp;", "&#13;", "&#xA;", "&#9;", "\t", "\r", "\n", "<", "'", "€", "&"}, f)
	grown("", 4, []string{"&", "#", "quot;", "apos;", "gt;", "\"", "\xff", "\x00", "\uFFFD", "\uFFFE"}, f)
	grown("&#x", 7, []string{"0", "F", ";"}, f)
	grown("&#", 8, []string{"0", "9", ";"}, f)
}

func TestEn1En2En3Changed(t *testing.T) {
	for _, s := range []string{"a&amp;b", "&lt;&gt;", "&quot;\r\n&apos;", "&#65;&#x20aC;", "\t&#9;\r", "€<a b='\"'>&#1114111;"} {
		allAs(t, s)
		for i := range len(s) {
			allAs(t, s[:i]+s[i+1:])
			for c := range 256 {
				allAs(t, s[:i]+string([]byte{byte(c)})+s[i+1:])
				allAs(t, s[:i]+string([]byte{byte(c)})+s[i:])
			}
		}
	}
}

func TestEn1En2En3Mixed(t *testing.T) {
	chance := rand.New(rand.NewSource(12))
	parts := []string{"&amp;", "&lt;", "&gt;", "&quot;", "&apos;", "&#13;", "&#x2028;", "&#128512;", "a", " ", "\t", "\r", "\n", "\r\n", "<", ">", "\"", "'", ";", "#", "€", "\U0001F600", "\uFFFD", "&", "\x00", "\xff"}
	for range 20000 {
		var s strings.Builder
		few := len(parts) - chance.Intn(4) // most texts are without the last ones, which are refused
		for range chance.Intn(30) {
			s.WriteString(parts[chance.Intn(few)])
		}
		allAs(t, s.String())
	}
}

func TestEn3EveryRune(t *testing.T) {
	every(func(n uint64) {
		if stands(n) {
			follows(t, string(rune(n)))
		}
	})
	for _, s := range []string{"\r\n", "\r\r\n", "\n\r", "&#13;\n", "a\rb\r\nc\n", "&amp;lt;", "<&>\"'\r\t\n"} {
		follows(t, s)
	}
}

// apart tells whether two texts lie in other memory.
func apart(x, y string) bool {
	a, b := uintptr(unsafe.Pointer(unsafe.StringData(x))), uintptr(unsafe.Pointer(unsafe.StringData(y)))
	return x == "" || y == "" || a >= b+uintptr(len(y)) || b >= a+uintptr(len(x))
}

func TestR3Apart(t *testing.T) {
	for _, s := range []string{"a text", "a&lt;b", "&#65;", "a\r\nb", "a\tb", "€uro"} {
		s = strings.Clone(s)
		kept := strings.Clone(s)
		escaped, _ := Escape(s)
		turned, _ := Unescape(s)
		of, _ := Value(s)
		for _, got := range []string{escaped, turned, of, Lines(s)} {
			if got == "" || !apart(got, s) {
				t.Errorf("%q lies in %q", got, s)
			}
		}
		if s != kept {
			t.Errorf("%q was turned to %q", kept, s)
		}
	}
}

// Long texts are read in a moment. (This file's patterns take longer over them, and are asked of shorter ones.)
func TestR1Large(t *testing.T) {
	const size = 1 << 18
	for _, piece := range []string{"a", "&", "&amp;", "&#1114111;", "&#x10FFFF;", ";", "\r", "\r\n", "\t", "<", "€", "\x00", "\xff", "&amp"} {
		for _, head := range []string{"", "&", "&#", "&#x"} {
			allAs(t, head+strings.Repeat(piece, size>>7)+";")
			s := head + strings.Repeat(piece, size) + ";"
			follows(t, s)
			Lines(s)
			Unescape(s)
			Value(s)
		}
	}
	unescape.is(t, strings.Repeat("&amp;", size), strings.Repeat("&", size))
	for _, digit := range []string{"0", "9", "f"} {
		unescape.refuses(t, "&#"+strings.Repeat(digit, size)+";", api.ErrText)
		unescape.refuses(t, "&#x"+strings.Repeat(digit, size)+";", api.ErrText)
	}
}
