package text

import (
	"math"
	"slices"
	"strings"
	"testing"
	"unicode/utf8"
	"unsafe"

	"lantern/api"
)

// broken are bytes that are no UTF-8, each with its reason.
func broken() map[string]string {
	return map[string]string{
		"a byte of no rune":                       "\xff",
		"a byte of no rune, behind others":        "ab\xfe",
		"a byte that goes on with nothing":        "\x80",
		"a byte that goes on with nothing, later": "a\xbfb",
		"two bytes, cut short":                    "\xc3",
		"three bytes, cut short":                  "\xe2\x82",
		"three bytes, cut short by a blank":       "\xe2\x82 ",
		"four bytes, cut short":                   "\xf0\x9f\x98",
		"four bytes, cut short by a letter":       "\xf0\x9f\x98a",
		"the first surrogate":                     "\xed\xa0\x80",
		"the last surrogate":                      "\xed\xbf\xbf",
		"a pair of surrogates":                    "\xed\xa0\xbd\xed\xb8\x80",
		"nought in two bytes":                     "\xc0\x80",
		"U+007F in two bytes":                     "\xc1\xbf",
		"nought in three bytes":                   "\xe0\x80\x80",
		"U+07FF in three bytes":                   "\xe0\x9f\xbf",
		"U+FFFF in four bytes":                    "\xf0\x8f\xbf\xbf",
		"U+110000":                                "\xf4\x90\x80\x80",
		"above U+110000":                          "\xf5\x80\x80\x80",
		"five bytes":                              "\xf8\x88\x80\x80\x80",
		"U+FFFD, cut short":                       "\xef\xbf",
		"a broken byte behind U+FFFD":             "\uFFFD\xff",
		"a broken byte ahead of U+FFFD":           "\xff\uFFFD",
	}
}

// whole are texts that may be.
func whole() []string {
	return []string{
		"", "a", "abc", "€uro", "Ä", " ", "\t\n\r ", "\x00", "\x01", "\x7f",
		"\u0080", "\u07FF", "\u0800", "\uD7FF", "\uE000", "\uFFFD", "a\uFFFDb", "\uFFFE", "\uFFFF",
		"\U00010000", "\U0001F600", "\U0010FFFF",
		" a\r\nb ", "\ta  b", "  AbÄ  cD\u00a0e\u2003 ", "a\vb\fc\u0085d",
	}
}

// short calls f on every text of at most size pieces, among them white, letters,
// runes of each length and bytes that are no UTF-8.
func short(size int, f func(s string)) {
	pieces := []string{" ", "\t", "\n", "\r", "\v", "a", "Z", "é", "€", "\uFFFD", "\U0001F600", "\x01", "\xff", "\xe2", "\x82"}
	var grow func(s string, left int)
	grow = func(s string, left int) {
		f(s)
		if left == 0 {
			return
		}
		for _, p := range pieces {
			grow(s+p, left-1)
		}
	}
	grow("", size)
}

// samples are all of the above in one list.
func samples() []string {
	l := whole()
	for _, s := range broken() {
		l = append(l, s, "  "+s+"\tA b ")
	}
	short(3, func(s string) { l = append(l, s) })
	return l
}

func TestTe1Check(t *testing.T) {
	for _, s := range whole() {
		if e := Check(s); e != api.OK {
			t.Errorf("Check(%q) = %d", s, e)
		}
	}
	for why, s := range broken() {
		for _, x := range []string{s, "a" + s, s + "€", "€" + s + "a"} {
			if e := Check(x); e != api.ErrText {
				t.Errorf("%s: Check(%q) = %d, want ErrText", why, x, e)
			}
		}
	}
	short(4, func(s string) {
		if got, want := Check(s) == api.OK, utf8.ValidString(s); got != want {
			t.Errorf("Check(%q) is OK: %t, want %t", s, got, want)
		}
	})
}

func TestTe1CheckEveryRune(t *testing.T) {
	for r := rune(0); r <= utf8.MaxRune; r++ {
		if s := string(r); utf8.ValidRune(r) && Check(s) != api.OK {
			t.Fatalf("Check of %U = %d", r, Check(s))
		}
	}
}

func TestTe1Xml(t *testing.T) {
	cases := []struct {
		s    string
		want api.Errno
	}{
		{"", api.OK},
		{"a\tb\nc\rd e", api.OK},
		{"\u0020\uD7FF", api.OK},
		{"\uE000\uFFFD", api.OK},
		{"\U00010000\U0010FFFF", api.OK},
		{"\u007F\u0085", api.OK},
		{"\x00", api.ErrArg},
		{"a\x08", api.ErrArg},
		{"\x0bb", api.ErrArg},
		{"a\x0cb", api.ErrArg},
		{"\x0e", api.ErrArg},
		{"\x1f", api.ErrArg},
		{"€\uFFFE", api.ErrArg},
		{"\uFFFF", api.ErrArg},
		// ErrText is named first, on whichever side the rune lies.
		{"\x01\xff", api.ErrText},
		{"\xff\x01", api.ErrText},
		{"\uFFFE\xed\xa0\x80", api.ErrText},
	}
	for _, c := range cases {
		if e := Xml(c.s); e != c.want {
			t.Errorf("Xml(%q) = %d, want %d", c.s, e, c.want)
		}
	}
	for why, s := range broken() {
		if e := Xml(s); e != api.ErrText {
			t.Errorf("%s: Xml(%q) = %d, want ErrText", why, s, e)
		}
	}
}

func TestTe1XmlEveryRune(t *testing.T) {
	want := func(r rune) api.Errno {
		switch {
		case r < 0x20 && r != 0x9 && r != 0xA && r != 0xD, r == 0xFFFE, r == 0xFFFF:
			return api.ErrArg
		}
		return api.OK
	}
	for r := rune(0); r <= utf8.MaxRune; r++ {
		if !utf8.ValidRune(r) {
			continue
		}
		if e := Xml(string(r)); e != want(r) {
			t.Fatalf("Xml of %U = %d, want %d", r, e, want(r))
		}
	}
}

func TestTe1Count(t *testing.T) {
	cases := []struct {
		s    string
		want int
	}{
		{"", 0}, {"a", 1}, {"€u", 2}, {"€uro", 4}, {"Ä\U0001F600\x00", 3},
		{"\uFFFD", 1}, {" \t\r\n", 4}, {"e\u0301", 2},
	}
	for _, c := range cases {
		if n := Count(c.s); n != c.want {
			t.Errorf("Count(%q) = %d, want %d", c.s, n, c.want)
		}
	}
	for why, s := range broken() {
		if n := Count("abc" + s); n != 0 {
			t.Errorf("%s: Count(%q) = %d, want 0", why, "abc"+s, n)
		}
	}
	if n := Count(strings.Repeat("€", api.MaxBytes)); n != api.MaxBytes {
		t.Errorf("Count of a long text = %d", n)
	}
}

func TestTe1Head(t *testing.T) {
	cases := []struct {
		s    string
		n    int
		want string
	}{
		{"€uro", 2, "€u"},
		{"€uro", 1, "€"},
		{"€uro", 3, "€ur"},
		{"€uro", 4, "€uro"},
		{"€uro", 5, "€uro"},
		{"€uro", math.MaxInt, "€uro"},
		{"€uro", 0, ""},
		{"€uro", -1, ""},
		{"€uro", math.MinInt, ""},
		{"", 1, ""},
		{"", 0, ""},
		{"\uFFFDa\U0001F600b", 3, "\uFFFDa\U0001F600"},
		{"  a", 2, "  "},
		{"e\u0301", 1, "e"},
	}
	for _, c := range cases {
		if h := Head(c.s, c.n); h != c.want {
			t.Errorf("Head(%q, %d) = %q, want %q", c.s, c.n, h, c.want)
		}
	}
	for why, s := range broken() {
		for _, n := range []int{math.MinInt, 0, 1, 2, math.MaxInt} {
			if h := Head("abc"+s, n); h != "" {
				t.Errorf("%s: Head(%q, %d) = %q, want none", why, "abc"+s, n, h)
			}
		}
	}
}

func TestTe1HeadAgainstRunes(t *testing.T) {
	short(4, func(s string) {
		if !utf8.ValidString(s) {
			return
		}
		runes := []rune(s)
		for n := -1; n <= len(runes)+1; n++ {
			want := string(runes[:min(max(n, 0), len(runes))])
			if h := Head(s, n); h != want {
				t.Errorf("Head(%q, %d) = %q, want %q", s, n, h, want)
			}
		}
	})
}

func TestTe2Lower(t *testing.T) {
	cases := []struct{ s, want string }{
		{"", ""},
		{"AbÄ", "abÄ"},
		{"ABCDEFGHIJKLMNOPQRSTUVWXYZ", "abcdefghijklmnopqrstuvwxyz"},
		{"@[`{09 \t", "@[`{09 \t"},
		{"\u212A\u0130ΣЯ", "\u212A\u0130ΣЯ"}, // these have a lower case, but are not of ASCII
		{"A\xffB\xc3", "a\xffb\xc3"},
	}
	for _, c := range cases {
		if got := Lower(c.s); got != c.want {
			t.Errorf("Lower(%q) = %q, want %q", c.s, got, c.want)
		}
	}
}

func TestTe2LowerEveryByte(t *testing.T) {
	for i := range 256 {
		b := byte(i)
		want := b
		if strings.IndexByte("ABCDEFGHIJKLMNOPQRSTUVWXYZ", b) >= 0 {
			want = b + 32
		}
		if got := Lower(string([]byte{b})); got != string([]byte{want}) {
			t.Errorf("Lower of the byte %#x = %q", b, got)
		}
	}
}

func TestTe2Trim(t *testing.T) {
	cases := []struct{ s, want string }{
		{"", ""},
		{" ", ""},
		{" \t\r\n", ""},
		{"a", "a"},
		{" \ta b\n", "a b"},
		{"a \t\r\n b", "a \t\r\n b"},
		{"\r\n\t a", "a"},
		{"a\r\n\t ", "a"},
		{"\v a \f", "\v a \f"},
		{"\u00a0a\u0085", "\u00a0a\u0085"}, // white elsewhere, but not here
		{" \u2028 ", "\u2028"},
		{" \x00 ", "\x00"},
		{" \xff ", "\xff"},
		{"\t\xe2\x82 ", "\xe2\x82"},
		{" \x82\r", "\x82"},
		{" \uFFFD\n", "\uFFFD"},
	}
	for _, c := range cases {
		if got := Trim(c.s); got != c.want {
			t.Errorf("Trim(%q) = %q, want %q", c.s, got, c.want)
		}
	}
	short(4, func(s string) {
		if got, want := Trim(s), strings.Trim(s, " \t\n\r"); got != want {
			t.Errorf("Trim(%q) = %q, want %q", s, got, want)
		}
	})
}

func TestTe2Words(t *testing.T) {
	cases := []struct {
		s    string
		want []string
	}{
		{"", nil},
		{" ", nil},
		{" \t\r\n ", nil},
		{"a", []string{"a"}},
		{" a\r\nb ", []string{"a", "b"}},
		{"b a b", []string{"b", "a", "b"}},
		{"one\ttwo\nthree\rfour five", []string{"one", "two", "three", "four", "five"}},
		{"a\vb\fc\u00a0d\u0085e\u2003f", []string{"a\vb\fc\u00a0d\u0085e\u2003f"}},
		{"€ Ä", []string{"€", "Ä"}},
		{"\xff \xe2\x82\t\x82", []string{"\xff", "\xe2\x82", "\x82"}},
	}
	for _, c := range cases {
		if got := Words(c.s); !slices.Equal(got, c.want) {
			t.Errorf("Words(%q) = %q, want %q", c.s, got, c.want)
		}
	}
	// Bytes tell the same as runes do: no white is part of another rune.
	short(4, func(s string) {
		blank := strings.NewReplacer("\t", " ", "\n", " ", "\r", " ").Replace(s)
		want := slices.DeleteFunc(strings.Split(blank, " "), func(w string) bool { return w == "" })
		if got := Words(s); !slices.Equal(got, want) {
			t.Errorf("Words(%q) = %q, want %q", s, got, want)
		}
	})
}

func TestTe2Squeeze(t *testing.T) {
	cases := []struct{ s, want string }{
		{"", ""},
		{"\n", ""},
		{" \t\r\n ", ""},
		{"\ta  b", "a b"},
		{"a b", "a b"},
		{"  one\r\n\r\ntwo\t three  ", "one two three"},
		{"a\u00a0 b\v", "a\u00a0 b\v"},
		{" \xff\t\xe2 ", "\xff \xe2"},
	}
	for _, c := range cases {
		if got := Squeeze(c.s); got != c.want {
			t.Errorf("Squeeze(%q) = %q, want %q", c.s, got, c.want)
		}
	}
}

func TestTe3CountOfHead(t *testing.T) {
	for _, s := range samples() {
		all := Count(s)
		for n := 0; n <= all; n++ {
			h := Head(s, n)
			if Count(h) != n || !strings.HasPrefix(s, h) {
				t.Errorf("Head(%q, %d) = %q, of %d runes", s, n, h, Count(h))
			}
		}
		if h := Head(s, all+1); Check(s) == api.OK && h != s {
			t.Errorf("Head(%q, %d) = %q, want all of it", s, all+1, h)
		}
	}
}

func TestTe3TwiceIsOnce(t *testing.T) {
	calls := []struct {
		name string
		f    func(string) string
	}{{"Trim", Trim}, {"Squeeze", Squeeze}, {"Lower", Lower}}
	for _, s := range samples() {
		for _, c := range calls {
			once := c.f(s)
			if twice := c.f(once); twice != once {
				t.Errorf("%s of %q: once %q, twice %q", c.name, s, once, twice)
			}
		}
	}
}

func TestTe3WordsOfSqueeze(t *testing.T) {
	for _, s := range samples() {
		if got, want := Words(Squeeze(s)), Words(s); !slices.Equal(got, want) {
			t.Errorf("Words of Squeeze of %q = %q, want %q", s, got, want)
		}
	}
}

// TestR3NewMemory: what is answered shares nothing with the argument, and one answer nothing with the next.
func TestR3NewMemory(t *testing.T) {
	s := strings.Repeat("alpha beta ", 3) + "gamma"
	answers := append(Words(s), Head(s, 7), Head(s, 1000), Lower(s), Trim(s), Squeeze(s))
	for _, a := range answers {
		if within(s, a) {
			t.Errorf("%q lies in the argument's memory", a)
		}
	}
	first := Words(s)
	want := slices.Clone(first)
	second := Words(s)
	second[0] = "other"
	_ = append(second[:1], "other")
	if !slices.Equal(first, want) || !slices.Equal(Words(s), want) {
		t.Errorf("Words turned by another answer: %q", first)
	}
}

// within tells whether a begins in the bytes of s.
func within(s, a string) bool {
	from := uintptr(unsafe.Pointer(unsafe.StringData(s)))
	at := uintptr(unsafe.Pointer(unsafe.StringData(a)))
	return from <= at && at < from+uintptr(len(s))
}
