package url

import (
	"fmt"
	"net/netip"
	"regexp"
	"slices"
	"strings"
	"testing"
	"unsafe"

	"lantern/api"
)

// The texts that this file reads URLs by: first the five parts of RFC 3986's appendix B, then each of them.
var (
	five      = regexp.MustCompile(`^(?:([^:/?#]*):)?(?://([^/?#]*))?([^?#]*)(?:\?([^#]*))?(?:#(.*))?$`)
	authority = regexp.MustCompile(`^(?:(.*)@)?([^@]*?)(?::([^:\]@]*))?$`)
	schemes   = regexp.MustCompile(`^[A-Za-z][A-Za-z0-9+.-]*$`)
	hosts     = regexp.MustCompile(`^[^][:@/?#]*$`)
	ports     = regexp.MustCompile(`^[0-9]*$`)
	signs     = regexp.MustCompile(`^(?:[!#-$&-;=?-[\]_a-z~]|%[0-9A-Fa-f][0-9A-Fa-f])*$`)
)

// cut is what a pattern's groups are of a text, and which of them stand in it.
func cut(r *regexp.Regexp, s string) (texts []string, has []bool, ok bool) {
	at := r.FindStringSubmatchIndex(s)
	for i := 2; i < len(at); i += 2 {
		has = append(has, at[i] >= 0)
		texts = append(texts, s[max(at[i], 0):max(at[i+1], 0)])
	}
	return texts, has, at != nil
}

// isV6 tells whether a text is an IPv6 in brackets, by another reader.
func isV6(s string) bool {
	if len(s) < 2 || s[0] != '[' || s[len(s)-1] != ']' {
		return false
	}
	a, err := netip.ParseAddr(s[1 : len(s)-1])
	return err == nil && a.Is6() && a.Zone() == ""
}

// read reads a URL by patterns; false: it is none.
func read(s string) (api.Url, bool) {
	p, has, ok := cut(five, s)
	if !ok || !signs.MatchString(s) || has[0] && !schemes.MatchString(p[0]) {
		return api.Url{}, false
	}
	u := api.Url{Scheme: p[0], HasAuth: has[1], Path: p[2], Query: p[3], HasQuery: has[3], Frag: p[4], HasFrag: has[4]}
	if u.HasAuth {
		a, has, ok := cut(authority, p[1])
		if !ok {
			return api.Url{}, false
		}
		u.User, u.HasUser, u.Host, u.Port, u.HasPort = a[0], has[0], a[1], a[2], has[2]
	}
	if strings.ContainsAny(u.User+u.Path+u.Query+u.Frag, "[]") || strings.Contains(u.Frag, "#") {
		return api.Url{}, false
	}
	if !ports.MatchString(u.Port) || !hosts.MatchString(u.Host) && !isV6(u.Host) {
		return api.Url{}, false
	}
	return u, true
}

// mayBe tells whether a URL may be, part by part.
func mayBe(u api.Url) bool {
	if !u.HasAuth && (u.HasUser || u.HasPort || u.Host != "") {
		return false
	}
	if !u.HasUser && u.User != "" || !u.HasPort && u.Port != "" || !u.HasQuery && u.Query != "" || !u.HasFrag && u.Frag != "" {
		return false
	}
	if u.HasAuth && u.Path != "" && u.Path[0] != '/' || !u.HasAuth && strings.HasPrefix(u.Path, "//") {
		return false
	}
	head, _, _ := strings.Cut(u.Path, "/")
	if u.Scheme == "" && !u.HasAuth && strings.Contains(head, ":") || u.Scheme != "" && !schemes.MatchString(u.Scheme) {
		return false
	}
	if strings.ContainsAny(u.User, "/?#[]") || strings.ContainsAny(u.Path, "?#[]") || strings.ContainsAny(u.Query, "#[]") || strings.ContainsAny(u.Frag, "#[]") {
		return false
	}
	if !ports.MatchString(u.Port) || !hosts.MatchString(u.Host) && !isV6(u.Host) {
		return false
	}
	return !slices.ContainsFunc([]string{u.User, u.Host, u.Path, u.Query, u.Frag}, func(s string) bool { return !signs.MatchString(s) })
}

// written is a URL's parts, one behind the other, of one that may be.
func written(u api.Url) string {
	mark := func(has bool, s string) string {
		if has {
			return s
		}
		return ""
	}
	return u.Scheme + mark(u.Scheme != "", ":") + mark(u.HasAuth, "//") + u.User + mark(u.HasUser, "@") + u.Host +
		mark(u.HasPort, ":") + u.Port + u.Path + mark(u.HasQuery, "?") + u.Query + mark(u.HasFrag, "#") + u.Frag
}

// grown calls f on every text of at most size pieces behind head.
func grown(head string, size int, pieces []string, f func(s string)) {
	f(head)
	if size == 0 {
		return
	}
	for _, p := range pieces {
		grown(head+p, size-1, pieces, f)
	}
}

func parses(t *testing.T, s string, want api.Url) {
	t.Helper()
	if u, e := Parse(s); e != api.OK || u != want {
		t.Errorf("Parse(%q) = %+v, error %d, want %+v", s, u, e, want)
	}
	if got, e := Print(want); e != api.OK || got != s {
		t.Errorf("Print(%+v) = %q, error %d, want %q", want, got, e, s)
	}
	if e := Check(want); e != api.OK {
		t.Errorf("Check(%+v) = %d", want, e)
	}
}

func parsesNot(t *testing.T, s string, want api.Errno) {
	t.Helper()
	if u, e := Parse(s); e != want || u != (api.Url{}) {
		t.Errorf("Parse(%.60q) = %+v, error %d, want error %d", s, u, e, want)
	}
}

func printsNot(t *testing.T, u api.Url) {
	t.Helper()
	if s, e := Print(u); e != api.ErrArg || s != "" {
		t.Errorf("Print(%+v) = %q, error %d, want error %d", u, s, e, api.ErrArg)
	}
	if e := Check(u); e != api.ErrArg {
		t.Errorf("Check(%+v) = %d, want %d", u, e, api.ErrArg)
	}
}

// asRead holds Parse against this file's reader.
func asRead(t *testing.T, s string) {
	t.Helper()
	if want, ok := read(s); ok {
		parses(t, s, want)
	} else {
		parsesNot(t, s, api.ErrText)
	}
}

func TestUr1Parse(t *testing.T) {
	for s, want := range map[string]api.Url{
		"":                    {},
		"http://u@h:80/p?q#f": {Scheme: "http", HasAuth: true, User: "u", HasUser: true, Host: "h", Port: "80", HasPort: true, Path: "/p", Query: "q", HasQuery: true, Frag: "f", HasFrag: true},
		"a:b":                 {Scheme: "a", Path: "b"},
		"a:":                  {Scheme: "a"},
		"a:b:c":               {Scheme: "a", Path: "b:c"},
		"a::":                 {Scheme: "a", Path: ":"},
		"a://":                {Scheme: "a", HasAuth: true},
		"aZ1+-.:b":            {Scheme: "aZ1+-.", Path: "b"},
		"HTTP://H":            {Scheme: "HTTP", HasAuth: true, Host: "H"},
		"a:/":                 {Scheme: "a", Path: "/"},
		"a:/b//c":             {Scheme: "a", Path: "/b//c"},
		"a:?":                 {Scheme: "a", HasQuery: true},
		"a:#":                 {Scheme: "a", HasFrag: true},

		// A first `:` behind a `/`, `?` or `#` ends no Scheme.
		"x/a:b": {Path: "x/a:b"},
		"/:":    {Path: "/:"},
		"1/:":   {Path: "1/:"},
		"1?:":   {Path: "1", HasQuery: true, Query: ":"},
		"?a:b":  {HasQuery: true, Query: "a:b"},
		"1#a:b": {Path: "1", HasFrag: true, Frag: "a:b"},
		"#:":    {HasFrag: true, Frag: ":"},
		"//:":   {HasAuth: true, HasPort: true},

		// Authorities.
		"//":                {HasAuth: true},
		"///":               {HasAuth: true, Path: "/"},
		"////":              {HasAuth: true, Path: "//"},
		"///p":              {HasAuth: true, Path: "/p"},
		"//?":               {HasAuth: true, HasQuery: true},
		"//#":               {HasAuth: true, HasFrag: true},
		"//h":               {HasAuth: true, Host: "h"},
		"//h?q/r":           {HasAuth: true, Host: "h", HasQuery: true, Query: "q/r"},
		"//h#f/g":           {HasAuth: true, Host: "h", HasFrag: true, Frag: "f/g"},
		"//h//p":            {HasAuth: true, Host: "h", Path: "//p"},
		"//@":               {HasAuth: true, HasUser: true},
		"//@h":              {HasAuth: true, HasUser: true, Host: "h"},
		"//u@":              {HasAuth: true, HasUser: true, User: "u"},
		"//u:p@h":           {HasAuth: true, HasUser: true, User: "u:p", Host: "h"},
		"//:@h":             {HasAuth: true, HasUser: true, User: ":", Host: "h"},
		"//u:1@h:2":         {HasAuth: true, HasUser: true, User: "u:1", Host: "h", HasPort: true, Port: "2"},
		"http://a@b@c/":     {Scheme: "http", HasAuth: true, HasUser: true, User: "a@b", Host: "c", Path: "/"},
		"//@@":              {HasAuth: true, HasUser: true, User: "@"},
		"//a@b:1@c:d@e:5":   {HasAuth: true, HasUser: true, User: "a@b:1@c:d", Host: "e", HasPort: true, Port: "5"},
		"//h:":              {HasAuth: true, Host: "h", HasPort: true},
		"//h:/":             {HasAuth: true, Host: "h", HasPort: true, Path: "/"},
		"//:80":             {HasAuth: true, HasPort: true, Port: "80"},
		"//@:":              {HasAuth: true, HasUser: true, HasPort: true},
		"//h:0001234567890": {HasAuth: true, Host: "h", HasPort: true, Port: "0001234567890"},
		"//h/p@q:1":         {HasAuth: true, Host: "h", Path: "/p@q:1"},
		"//h?@:":            {HasAuth: true, Host: "h", HasQuery: true, Query: "@:"},
		"//h#@:":            {HasAuth: true, Host: "h", HasFrag: true, Frag: "@:"},
		"//0x7f.1":          {HasAuth: true, Host: "0x7f.1"},
		"//h%41!$&'()*+,;=": {HasAuth: true, Host: "h%41!$&'()*+,;="},
		"//%75%3a@h":        {HasAuth: true, HasUser: true, User: "%75%3a", Host: "h"},

		// An IPv6 in brackets.
		"http://[::1]:8/":           {Scheme: "http", HasAuth: true, Host: "[::1]", HasPort: true, Port: "8", Path: "/"},
		"//[::]":                    {HasAuth: true, Host: "[::]"},
		"//[::]:":                   {HasAuth: true, Host: "[::]", HasPort: true},
		"//[::]?":                   {HasAuth: true, Host: "[::]", HasQuery: true},
		"//u@[::]":                  {HasAuth: true, HasUser: true, User: "u", Host: "[::]"},
		"//u:p@[1:2:3:4:5:6:7:8]:9": {HasAuth: true, HasUser: true, User: "u:p", Host: "[1:2:3:4:5:6:7:8]", HasPort: true, Port: "9"},
		"//[::FFFF:1.2.3.4]":        {HasAuth: true, Host: "[::FFFF:1.2.3.4]"},
		"//[1:2:3:4::5:6:7:8]":      {HasAuth: true, Host: "[1:2:3:4::5:6:7:8]"},

		// Path, Query, Frag.
		"/":         {Path: "/"},
		"/p":        {Path: "/p"},
		"p//q":      {Path: "p//q"},
		"/p//":      {Path: "/p//"},
		"@":         {Path: "@"},
		"?":         {HasQuery: true},
		"??":        {HasQuery: true, Query: "?"},
		"?a?b/c":    {HasQuery: true, Query: "a?b/c"},
		"?//h":      {HasQuery: true, Query: "//h"},
		"#":         {HasFrag: true},
		"#?":        {HasFrag: true, Frag: "?"},
		"p#f?g/h:i": {Path: "p", HasFrag: true, Frag: "f?g/h:i"},
		"#//h":      {HasFrag: true, Frag: "//h"},
		"?#":        {HasQuery: true, HasFrag: true},
		"a?b#c?d":   {Path: "a", HasQuery: true, Query: "b", HasFrag: true, Frag: "c?d"},
	} {
		parses(t, s, want)
		if got, ok := read(s); s != "//[1:2:3:4::5:6:7:8]" && (!ok || got != want) {
			t.Errorf("this file's reader reads %q as %+v, %v", s, got, ok)
		}
	}
}

func TestUr1ParseWrong(t *testing.T) {
	for _, s := range []string{
		// A first `:` behind no Scheme.
		":", ":b", "1:b", "+a:b", "-:", ".:", "%41:b", "a_b:c", "a%41:", "a@b:c", "a~:", "://h", "://", "1://h", "::1", "[::1]", "a*:", ":?", ":#", ":/",

		// Hosts and Ports.
		"http://[::1/", "//[", "//]", "//[]", "//[:]", "//[]:80", "//::1]", "//[::1", "//[::1:80", "//[::1]]", "//[[::1]]", "//[[::1]", "//[::1][::1]",
		"//[::1]80", "//[::1]a", "//[::1]a:80", "//a[::1]", "//a[::1]:80", "//[::1]:[", "//[::1]:]", "//[::1]:8]",
		"//[1.2.3.4]", "//[127.1]", "//[h]", "//[1]", "//[::1%25eth]", "//[fe80::1%41]", "//[:::]", "//[1:2:3:4:5:6:7]", "//[12345::]", "//[::1.2.3]", "//[ ::]", "//[v1.a:b]",
		"//::1", "//1:2:3", "//a::", "//a:b:80", "//a:1:2", "//::",
		"http://a:8x/", "//h:x", "//h:-1", "//h:+1", "//h:1.", "//h:%31", "//h:1:x", "//h:8x8", "//h:x8", "//h:8x",
		"//[u]@h", "//[::1]@h", "//u[@h", "//u]@h", "//[::1]:1@h", "//[@]", "//[::1@]",

		// Brackets elsewhere.
		"a[b", "a]b", "/[", "/]", "?[", "?]", "#[", "#]", "//h/[::1]", "//h?[::1]", "//h#[::1]", "a:[::1]", "a[:b", "a]:b",

		// Bytes that may not stand, and `%`.
		" ", "http://a b/", "a b", "\t", "\n", "a\n", "\x00", "\x7f", "\x80", "é", "\"", "<", ">", "\\", "^", "`", "{", "|", "}",
		"http:\\\\h", "%", "%4", "%4g", "%g4", "%zz", "%%41", "%4%41", "%-1", "%+1", "% 1", "%0x", "a%", "a%4", "%/41", "%4/1", "%4?1", "?%", "#%", "#%4", "//%", "//%4", "//%4/1", "//%@41", "//h:%", "%\x00\x00", "%é",

		// A second `#`.
		"##", "a#b#c", "#a#", "#?#", "?#a#b",
	} {
		parsesNot(t, s, api.ErrText)
		if u, ok := read(s); ok {
			t.Errorf("this file's reader reads %q as %+v", s, u)
		}
	}
}

func TestUr1ParseEveryByte(t *testing.T) {
	for c := range 256 {
		s := string([]byte{byte(c)})
		for _, form := range []string{"%s", "a%sb", "%s:b", "a%s:b", "a:%s", "//%s", "//u%s@h", "//%s@h", "//h%s", "//h%sh:1", "//h:%s", "//h:1%s2", "//h/%s", "/p%sq", "?%s", "?q%sr", "#%s", "#f%sg", "a%s41b", "//[%s]", "//[%s::]", "//[::1]%s"} {
			asRead(t, fmt.Sprintf(form, s))
		}
	}
}

func TestUr1ParseBytesThatMayStand(t *testing.T) {
	const may = "!$&'()*+,-./0123456789:;=?@ABCDEFGHIJKLMNOPQRSTUVWXYZ_abcdefghijklmnopqrstuvwxyz~"
	for c := range 256 {
		s := "?" + string([]byte{byte(c)})
		if strings.IndexByte(may, byte(c)) >= 0 {
			parses(t, s, api.Url{HasQuery: true, Query: s[1:]})
		} else if c != '#' {
			parsesNot(t, s, api.ErrText)
		}
	}
}

func TestUr1ParsePercent(t *testing.T) {
	for c := range 256 {
		for d := range 256 {
			s := string([]byte{'%', byte(c), byte(d)})
			asRead(t, s)
			if c == '4' || d == '1' {
				for _, form := range []string{"//u%s@h", "//h%s", "//h:1%s", "a:b%sc", "?%s", "#%s", "a%s:b"} {
					asRead(t, fmt.Sprintf(form, s))
				}
			}
		}
	}
}

func TestUr1ParseShort(t *testing.T) {
	grown("", 6, strings.Split("a1:/?#@[]", ""), func(s string) { asRead(t, s) })
	grown("", 5, strings.Split("a.+:/?#%4", ""), func(s string) { asRead(t, s) })
	grown("a://", 5, strings.Split("u8:@[]/?%", ""), func(s string) { asRead(t, s) })
	grown("", 4, []string{"a", "8", ":", "/", "//", "?", "#", "@", "[", "]", "[::1]", "[1.2.3.4]", "::1", "%41", "%", " ", "\x80"}, func(s string) { asRead(t, s) })
}

func TestUr1ParseChanged(t *testing.T) {
	signs := strings.Split("a1:/?#@[]%.+ ", "")
	for _, s := range []string{"http://u@h:80/p?q#f", "a+b://u:p@[::1]:8/%41/?r?#g?", "//[1::2:1.2.3.4]/b"} {
		changed(s, signs, func(x string) {
			asRead(t, x)
			changed(x, []string{":", "/", "@", "]", "#", "%"}, func(y string) { asRead(t, y) })
		})
	}
}

// changed calls f on a text with each sign left out, and with each of signs in its place and ahead of it.
func changed(s string, signs []string, f func(s string)) {
	for i := range len(s) + 1 {
		for _, x := range signs {
			f(s[:i] + x + s[i:])
			if i < len(s) {
				f(s[:i] + x + s[i+1:])
			}
		}
		if i < len(s) {
			f(s[:i] + s[i+1:])
		}
	}
}

// wide are a URL's parts, each filled up to a length, put together.
func wide(size int) []api.Url {
	fill := func(taken int, s string) string { return s + strings.Repeat("a", size-taken-len(s)) }
	return []api.Url{
		{Path: fill(0, "")},
		{Path: fill(0, "/")},
		{Scheme: fill(1, "")},
		{HasQuery: true, Query: fill(1, "")},
		{HasFrag: true, Frag: fill(1, "")},
		{HasAuth: true, Host: fill(2, "")},
		{HasAuth: true, HasUser: true, User: fill(3, "")},
		{HasAuth: true, HasPort: true, Port: strings.Repeat("1", size-3)},
		{Path: "/" + strings.Repeat("%41", (size-1)/3) + strings.Repeat("b", (size-1)%3)},
		{Scheme: "http", HasAuth: true, User: "u", HasUser: true, Host: "h", Port: "80", HasPort: true, Path: "/p", Query: "q", HasQuery: true, HasFrag: true, Frag: fill(18, "")},
	}
}

func TestUr1Long(t *testing.T) {
	for _, u := range wide(2047) {
		parses(t, written(u), u)
	}
	for _, u := range wide(2048) {
		parses(t, written(u), u)
	}
	for _, size := range []int{2049, 2050, 4096, 1 << 16} {
		for _, u := range wide(size) {
			if len(written(u)) != size {
				t.Fatalf("%d bytes, want %d", len(written(u)), size)
			}
			parsesNot(t, written(u), api.ErrLong)
			printsNot(t, u)
		}
	}
}

func TestUr1LongAheadOfText(t *testing.T) {
	for _, s := range []string{" ", "%", "[", "\xff", ":"} {
		parsesNot(t, s+strings.Repeat("g", 2047), api.ErrText)
		parsesNot(t, s+strings.Repeat("g", 2048), api.ErrLong)
		parsesNot(t, strings.Repeat(s, 2048), api.ErrText)
		parsesNot(t, strings.Repeat(s, 2049), api.ErrLong)
		parsesNot(t, strings.Repeat("/", 2048)+s, api.ErrLong)
	}
}

func TestUr1PrintWrong(t *testing.T) {
	whole := api.Url{Scheme: "http", HasAuth: true, User: "u", HasUser: true, Host: "h", Port: "80", HasPort: true, Path: "/p", Query: "q", HasQuery: true, Frag: "f", HasFrag: true}
	parses(t, "http://u@h:80/p?q#f", whole)
	for name, spoil := range map[string]func(u *api.Url){
		"a Scheme of none":          func(u *api.Url) { u.Scheme = "1" },
		"a Scheme with a mark":      func(u *api.Url) { u.Scheme = "a:" },
		"a Scheme with all":         func(u *api.Url) { u.Scheme = "http://x/" },
		"a Scheme behind a sign":    func(u *api.Url) { u.Scheme = "/a" },
		"a Scheme with `%`":         func(u *api.Url) { u.Scheme = "a%41" },
		"no HasAuth":                func(u *api.Url) { u.HasAuth = false },
		"no HasUser":                func(u *api.Url) { u.HasUser = false },
		"no HasPort":                func(u *api.Url) { u.HasPort = false },
		"no HasQuery":               func(u *api.Url) { u.HasQuery = false },
		"no HasFrag":                func(u *api.Url) { u.HasFrag = false },
		"an authority's User alone": func(u *api.Url) { *u = api.Url{HasUser: true} },
		"an authority's Port alone": func(u *api.Url) { *u = api.Url{HasPort: true} },
		"an authority's Host alone": func(u *api.Url) { *u = api.Url{Host: "h"} },
		"a User that ends":          func(u *api.Url) { u.User = "u/" },
		"a User with brackets":      func(u *api.Url) { u.User = "[::1]" },
		"a Host with a User":        func(u *api.Url) { u.Host = "v@h" },
		"a Host with a User alone":  func(u *api.Url) { u.Host, u.User, u.HasUser = "v@h", "", false },
		"a Host with a Port":        func(u *api.Url) { u.Host = "h:1" },
		"a Host with a Port alone":  func(u *api.Url) { u.Host, u.Port, u.HasPort = "h:1", "", false },
		"a Host with a Path":        func(u *api.Url) { u.Host = "h/" },
		"a Host with a Query":       func(u *api.Url) { u.Host = "h?" },
		"a Host with a Frag":        func(u *api.Url) { u.Host = "h#" },
		"an IPv4 in brackets":       func(u *api.Url) { u.Host = "[1.2.3.4]" },
		"an IPv6 without brackets":  func(u *api.Url) { u.Host = "::1" },
		"brackets left open":        func(u *api.Url) { u.Host = "[::1" },
		"a Port with a letter":      func(u *api.Url) { u.Port = "8a" },
		"a Port with a Path":        func(u *api.Url) { u.Port = "80/" },
		"a Port with a User":        func(u *api.Url) { u.Port = "80@h" },
		"a Path without `/`":        func(u *api.Url) { u.Path = "p" },
		"a Path of digits":          func(u *api.Url) { u.Path = "1" },
		"a Path with a Query":       func(u *api.Url) { u.Path = "/p?" },
		"a Path with a Frag":        func(u *api.Url) { u.Path = "/p#" },
		"a Path with a bracket":     func(u *api.Url) { u.Path = "/[" },
		"a Path cut within `%`":     func(u *api.Url) { u.Path = "/%4" },
		"a Host cut within `%`":     func(u *api.Url) { *u = api.Url{HasAuth: true, Host: "%4", Path: "1"} },
		"a Path with a blank":       func(u *api.Url) { u.Path = "/ " },
		"a Query with a Frag":       func(u *api.Url) { u.Query = "q#" },
		"a Query with a bracket":    func(u *api.Url) { u.Query = "]" },
		"a Frag with a Frag":        func(u *api.Url) { u.Frag = "#" },
		"a Frag with a bracket":     func(u *api.Url) { u.Frag = "[" },
		"a Frag cut within `%`":     func(u *api.Url) { u.Frag = "%4" },
		"no authority, Path `//`":   func(u *api.Url) { *u = api.Url{Path: "//"} },
		"no authority, Path `//h`":  func(u *api.Url) { *u = api.Url{Scheme: "a", Path: "//h"} },
		"a Path with a Scheme":      func(u *api.Url) { *u = api.Url{Path: "a:b"} },
		"a Path with no Scheme":     func(u *api.Url) { *u = api.Url{Path: "1:b"} },
		"a Path that is a mark":     func(u *api.Url) { *u = api.Url{Path: ":"} },
		"a Path with a Query alone": func(u *api.Url) { *u = api.Url{Path: "?"} },
		"a Query without Has":       func(u *api.Url) { *u = api.Url{Query: "q"} },
		"a Frag without Has":        func(u *api.Url) { *u = api.Url{Frag: "f"} },
		"a Port without Has":        func(u *api.Url) { *u = api.Url{HasAuth: true, Port: "1"} },
		"a User without Has":        func(u *api.Url) { *u = api.Url{HasAuth: true, User: "u"} },
	} {
		u := whole
		spoil(&u)
		if mayBe(u) {
			t.Errorf("%s: this file lets it be", name)
		}
		printsNot(t, u)
	}
}

func TestUr1PrintEveryParts(t *testing.T) {
	for _, scheme := range []string{"", "a", "1"} {
		for _, user := range []string{"", "u:", "@", "["} {
			for _, host := range []string{"", "h", "[::1]", ":", "h@"} {
				for _, port := range []string{"", "8", "x"} {
					for _, path := range []string{"", "/", "//", "p", "a:b", "1:", "/a:b", "?"} {
						for _, ends := range [][2]string{{"", ""}, {"q?", ""}, {"", "f?"}, {"#", ""}, {"", "#"}, {"%4", "1"}} {
							everyHas(t, api.Url{Scheme: scheme, User: user, Host: host, Port: port, Path: path, Query: ends[0], Frag: ends[1]})
						}
					}
				}
			}
		}
	}
}

// everyHas holds Print and Check of a URL, by each Has, against this file's own rules.
func everyHas(t *testing.T, u api.Url) {
	t.Helper()
	for has := range 32 {
		u.HasAuth, u.HasUser, u.HasPort, u.HasQuery, u.HasFrag = has&1 > 0, has&2 > 0, has&4 > 0, has&8 > 0, has&16 > 0
		if mayBe(u) {
			parses(t, written(u), u)
		} else {
			printsNot(t, u)
		}
	}
}

// escapes is a text escaped, byte by byte.
func escapes(s string) string {
	x := ""
	for _, c := range []byte(s) {
		if regexp.MustCompile(`^[A-Za-z0-9._~-]$`).Match([]byte{c}) {
			x += string(rune(c))
		} else {
			x += fmt.Sprintf("%%%02X", c)
		}
	}
	return x
}

func TestUr2Escape(t *testing.T) {
	for s, want := range map[string]string{
		"":              "",
		"a/€":           "a%2F%E2%82%AC",
		"-._~":          "-._~",
		"azAZ09":        "azAZ09",
		"@[`{/:":        "%40%5B%60%7B%2F%3A",
		" +":            "%20%2B",
		"%":             "%25",
		"%41":           "%2541",
		"\x00\x7f\xff":  "%00%7F%FF",
		"!*'();&=$,?#":  "%21%2A%27%28%29%3B%26%3D%24%2C%3F%23",
		"http://h/?q#f": "http%3A%2F%2Fh%2F%3Fq%23f",
	} {
		if got := Escape(s); got != want || escapes(s) != want {
			t.Errorf("Escape(%q) = %q, want %q", s, got, want)
		}
	}
}

func TestUr2EscapeEveryByte(t *testing.T) {
	for c := range 256 {
		for _, s := range []string{string([]byte{byte(c)}), string([]byte{'a', byte(c), byte(c + 1), '/'})} {
			if got, want := Escape(s), escapes(s); got != want {
				t.Errorf("Escape(%q) = %q, want %q", s, got, want)
			}
		}
	}
}

func unescapes(t *testing.T, s, want string) {
	t.Helper()
	if got, e := Unescape(s); e != api.OK || got != want {
		t.Errorf("Unescape(%q) = %q, error %d, want %q", s, got, e, want)
	}
}

func unescapesNot(t *testing.T, s string) {
	t.Helper()
	if got, e := Unescape(s); e != api.ErrText || got != "" {
		t.Errorf("Unescape(%q) = %q, error %d, want error %d", s, got, e, api.ErrText)
	}
}

func TestUr2Unescape(t *testing.T) {
	for s, want := range map[string]string{
		"":                    "",
		"%41b":                "Ab",
		"a%41":                "aA",
		"%e2%82%AC":           "€",
		"%00%fF%7f":           "\x00\xff\x7f",
		"%2541":               "%41",
		"%25%34%31":           "%41",
		"%25":                 "%",
		"%411":                "A1",
		"a+b c":               "a+b c",
		"\x00\xff<>é":         "\x00\xff<>é",
		"http://h/%3F?q=%26#": "http://h/??q=&#",
		"%aA%Aa":              "\xaa\xaa",
	} {
		unescapes(t, s, want)
	}
	for _, s := range []string{"%", "%4", "a%", "a%4", "%%", "%%41", "%4%41", "%zz", "%4g", "%g4", "%41%", "%41%4", "% 1", "%+1", "%-1", "%0x", "%x0", "%é", "%4\x00", "ok%2fbut%2", "%4 1", "%\n41"} {
		unescapesNot(t, s)
	}
}

func TestUr2UnescapeEveryPair(t *testing.T) {
	digits := regexp.MustCompile(`^[0-9A-Fa-f][0-9A-Fa-f]$`)
	for c := range 256 {
		for d := range 256 {
			pair := string([]byte{byte(c), byte(d)})
			if !digits.MatchString(pair) {
				unescapesNot(t, "%"+pair)
				unescapesNot(t, "a%41%"+pair+"b")
				continue
			}
			want := 0
			if _, err := fmt.Sscanf(pair, "%x", &want); err != nil {
				t.Fatal(err)
			}
			unescapes(t, "%"+pair, string([]byte{byte(want)}))
			unescapes(t, "a%41%"+pair+"b", string([]byte{'a', 'A', byte(want), 'b'}))
		}
	}
}

func TestUr2UnescapeOtherBytes(t *testing.T) {
	for c := range 256 {
		if c == '%' {
			continue
		}
		s := string([]byte{byte(c), 'x', byte(c)})
		unescapes(t, s, s)
	}
}

func TestUr3PrintOfParse(t *testing.T) {
	texts := 0
	grown("", 5, []string{"a", "8", ":", "/", "?", "#", "@", "[::1]", "%4a"}, func(s string) {
		u, e := Parse(s)
		if e != api.OK {
			return
		}
		texts++
		if got, e := Print(u); e != api.OK || got != s {
			t.Errorf("Print of Parse(%q) = %q, error %d", s, got, e)
		}
		if again, e := Parse(s); e != api.OK || again != u {
			t.Errorf("Parse(%q) = %+v, ahead of it %+v", s, again, u)
		}
	})
	if texts < 1000 {
		t.Errorf("only %d URLs", texts)
	}
}

func TestUr3UnescapeOfEscape(t *testing.T) {
	grown("", 4, []string{"a", "Z", "0", "%", "/", "~", "€", "\x00", "\xff", "%41"}, func(s string) {
		x := Escape(s)
		unescapes(t, x, s)
		parses(t, "/"+x, api.Url{Path: "/" + x})
	})
}

// apart tells whether an answer lies outside of an argument.
func apart(answer, argument string) bool {
	if answer == "" {
		return true
	}
	from := uintptr(unsafe.Pointer(unsafe.StringData(argument)))
	at := uintptr(unsafe.Pointer(unsafe.StringData(answer)))
	return at >= from+uintptr(len(argument)) || at+uintptr(len(answer)) <= from
}

func TestR3Answers(t *testing.T) {
	s := strings.Clone("http://u@h:80/p?q#f")
	u, _ := Parse(s)
	for _, x := range []string{u.Scheme, u.User, u.Host, u.Port, u.Path, u.Query, u.Frag} {
		if !apart(x, s) {
			t.Errorf("Parse's %q is a piece of the text", x)
		}
	}
	p := strings.Clone("/path")
	if x, _ := Print(api.Url{Path: p}); !apart(x, p) {
		t.Error("Print's text is a piece of the path")
	}
	if !apart(Escape(p[1:]), p) {
		t.Error("Escape's text is a piece of the text")
	}
	if x, _ := Unescape(p); !apart(x, p) {
		t.Error("Unescape's text is a piece of the text")
	}
}

func TestR1LongTexts(t *testing.T) {
	const size = 1 << 20
	for _, piece := range []string{"a", "/", "%", "%41", "[", "@", ":", "#", "?", "\x00", "\xff", "[::1]"} {
		s := strings.Repeat(piece, size)
		parsesNot(t, s, api.ErrLong)
		for _, u := range []api.Url{{Path: s}, {Scheme: s}, {HasAuth: true, Host: s}, {HasAuth: true, HasUser: true, User: s}, {HasAuth: true, HasPort: true, Port: s}, {HasQuery: true, Query: s}, {HasFrag: true, Frag: s}, {User: s}, {Port: s}, {Query: s}, {Frag: s}, {Host: s}} {
			if x, e := Print(u); x != "" || e != api.ErrArg {
				t.Errorf("Print of long parts of %q: error %d", piece, e)
			}
		}
		if x, e := Unescape(Escape(s)); e != api.OK || x != s {
			t.Errorf("Unescape of Escape of a long text of %q is another one, error %d", piece, e)
		}
		if x, e := Unescape(s); piece == "%" && (e != api.ErrText || x != "") || piece == "%41" && x != strings.Repeat("A", size) {
			t.Errorf("Unescape of a long text of %q: %d bytes, error %d", piece, len(x), e)
		}
	}
}
