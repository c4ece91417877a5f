package path

import (
	"regexp"
	"strconv"
	"strings"
	"testing"
	"unsafe"

	"lantern/api"
	"lantern/url"
)

// The ends of a path that this file takes off it.
var (
	firstSegment = regexp.MustCompile(`^/?[^/]*`)
	lastSegment  = regexp.MustCompile(`/?[^/]*$`)
	lastName     = regexp.MustCompile(`[^/]*$`)
)

// dotless takes dots out of a path by the steps of RFC 3986, 5.2.4, as they stand there.
func dotless(in string) string {
	out := ""
	for in != "" {
		switch {
		case strings.HasPrefix(in, "../"):
			in = in[3:]
		case strings.HasPrefix(in, "./"):
			in = in[2:]
		case strings.HasPrefix(in, "/./"):
			in = in[2:]
		case in == "/.":
			in = "/"
		case strings.HasPrefix(in, "/../"):
			in, out = in[3:], shorter(out)
		case in == "/..":
			in, out = "/", shorter(out)
		case in == "." || in == "..":
			in = ""
		default:
			next := firstSegment.FindString(in)
			in, out = in[len(next):], out+next
		}
	}
	return out
}

// shorter is a path without its last segment and the `/` ahead of it, if there is one.
func shorter(s string) string {
	return lastSegment.ReplaceAllString(s, "")
}

// resolved is a reference against a base by the steps of RFC 3986, 5.2.2 and 5.2.3, as they stand there.
func resolved(base, r api.Url) api.Url {
	t := api.Url{}
	authority := func(u api.Url) {
		t.HasAuth, t.User, t.HasUser, t.Host, t.Port, t.HasPort = u.HasAuth, u.User, u.HasUser, u.Host, u.Port, u.HasPort
	}
	query := func(u api.Url) { t.Query, t.HasQuery = u.Query, u.HasQuery }
	if r.Scheme != "" {
		t.Scheme = r.Scheme
		authority(r)
		t.Path = dotless(r.Path)
		query(r)
	} else {
		if r.HasAuth {
			authority(r)
			t.Path = dotless(r.Path)
			query(r)
		} else {
			if r.Path == "" {
				t.Path = base.Path
				if r.HasQuery {
					query(r)
				} else {
					query(base)
				}
			} else {
				if r.Path[0] == '/' {
					t.Path = dotless(r.Path)
				} else if base.HasAuth && base.Path == "" {
					t.Path = dotless("/" + r.Path)
				} else {
					t.Path = dotless(lastName.ReplaceAllString(base.Path, "") + r.Path)
				}
				query(r)
			}
			authority(base)
		}
		t.Scheme = base.Scheme
	}
	t.Frag, t.HasFrag = r.Frag, r.HasFrag
	return t
}

// written is a URL's parts, one behind the other.
func written(u api.Url) string {
	mark := func(has bool, s string) string {
		if has {
			return s
		}
		return ""
	}
	return u.Scheme + mark(u.Scheme != "", ":") + mark(u.HasAuth, "//") + u.User + mark(u.HasUser, "@") + u.Host +
		mark(u.HasPort, ":") + u.Port + u.Path + mark(u.HasQuery, "?") + u.Query + mark(u.HasFrag, "#") + u.Frag
}

// parsed reads a URL that is one.
func parsed(t *testing.T, s string) api.Url {
	t.Helper()
	u, e := url.Parse(s)
	if e != api.OK {
		t.Fatalf("%.80q is no URL: error %d", s, e)
	}
	return u
}

// grown calls f on every text of at most size pieces behind head.
func grown(head string, size int, pieces []string, f func(s string)) {
	f(head)
	if size == 0 {
		return
	}
	for _, p := range pieces {
		grown(head+p, size-1, pieces, f)
	}
}

func dots(t *testing.T, s, want string) {
	t.Helper()
	if got := Dots(s); got != want {
		t.Errorf("Dots(%.80q) = %.80q, want %.80q", s, got, want)
	}
}

func TestPa1Dots(t *testing.T) {
	for s, want := range map[string]string{
		// None, and dots alone.
		"": "", ".": "", "..": "", "/": "/", "/.": "/", "/..": "/", "./": "", "../": "", "/./": "/", "/../": "/",

		// At the beginning.
		"./a": "a", "../a": "a", "./../a": "a", ".././a": "a", "../../a": "a", "/./a": "/a", "/../a": "/a", "/../../a": "/a", "/./../a": "/a", "././": "", "./.": "", "../..": "", "./..": "",

		// In the middle.
		"/a/./b": "/a/b", "/a/../b": "/b", "/a/b/../c": "/a/c", "/a/b/../../c": "/c", "/a/./../b": "/b", "/a/.././b": "/b", "a/./b": "a/b", "a/../b": "/b", "a/b/../c": "a/c", "a/b/../../c": "/c", "a/./../b": "/b",

		// At the end.
		"/a/.": "/a/", "/a/..": "/", "/a/./": "/a/", "/a/../": "/", "/a/b/.": "/a/b/", "/a/b/..": "/a/", "a/.": "a/", "a/..": "/", "a/b/..": "a/", "a/./": "a/", "a/../": "/", "/a/b/../..": "/", "a/b/../..": "/",

		// More than there are segments.
		"/a/../../b": "/b", "/../../../a/../..": "/", "a/../../b": "/b", "../../../..": "", "/a/../..": "/", "/a/../../": "/", "a/../../../b/..": "/",

		// Empty segments.
		"//": "//", "///": "///", "//.": "//", "//..": "/", "//../": "/", "//../a": "/a", "//./a": "//a", "/.//": "//", "/..//": "//", "/.//a": "//a", "/..//a": "//a", ".//": "/", "..//": "/", ".//a": "/a", "..//a": "/a", "/a//..": "/a/", "/a//../b": "/a/b", "/a//../../b": "/b", "/a//b": "/a//b", "a//b": "a//b", "a//..": "a/", "/a/..//b": "//b", "a/..//b": "//b", "///..": "//", "/a/../..//b/.": "//b/", "//a/../..": "/",

		// Segments that only begin with a dot, or end with one.
		".a": ".a", "..a": "..a", "...": "...", "/.a": "/.a", "/..a": "/..a", "/...": "/...", "/.../": "/.../", "/a.": "/a.", "/a..": "/a..", "/a./b": "/a./b", "/a../b": "/a../b", ".../a": ".../a", "./.a": ".a", "../..a": "..a", "/.a/..": "/", "/..a/../b": "/b", "/.../..": "/", "/./.a/./..b": "/.a/..b", "....": "....", "a.": "a.", "a..": "a..",

		// What is no dot, nor a segment's end.
		"/%2e/": "/%2e/", "/%2E%2e": "/%2E%2e", "/.%2e/": "/.%2e/", "/a;/..;": "/a;/..;", "/a/..?": "/a/..?", "/.?/..#": "/.?/..#", "/\\../": "/\\../", "/a\\..": "/a\\..",

		// The document's, and RFC 3986's.
		"/b/c/../g": "/b/g", "/b/c/g;x=1/../y": "/b/c/y", "/a/b/c/./../../g": "/a/g", "mid/content=5/../6": "mid/6",

		// Bytes that may not stand in a URL are bytes as others.
		"/\x00/../\xff": "/\xff", "/é/./€": "/é/€", " /..": "/", "/ ./..": "/",
	} {
		dots(t, s, want)
		if got := dotless(s); got != want {
			t.Errorf("this file's steps make %q of %q, want %q", got, s, want)
		}
	}
}

func TestPa1DotsShort(t *testing.T) {
	grown("", 9, strings.Split("/.a", ""), func(s string) { dots(t, s, dotless(s)) })
	grown("", 6, []string{"/", ".", "..", "/..", "/.", "a", "%2e"}, func(s string) { dots(t, s, dotless(s)) })
}

func TestPa1DotsLong(t *testing.T) {
	for _, size := range []int{2046, 2047, 2048} {
		fill := strings.Repeat("a", size)
		dots(t, "/./"+fill[3:], "/"+fill[3:])
		dots(t, fill[3:]+"/..", "/")
		dots(t, fill[2:]+"/.", fill[2:]+"/")
		dots(t, fill, fill)
		s := strings.Repeat("/..", size)[:size-2] + "/a"
		dots(t, s, dotless(s))
		s = strings.Repeat("/a", size/4) + strings.Repeat("/..", size)[:size-2*(size/4)]
		dots(t, s, dotless(s))
	}
	for _, size := range []int{2049, 2050, 4096, 1 << 16, 1 << 20} {
		fill := strings.Repeat("a", size)
		for _, s := range []string{"/./" + fill[3:], fill[3:] + "/..", fill[2:] + "/.", "./" + fill[2:], "../" + fill[3:], strings.Repeat("/..", size)[:size], strings.Repeat("/.", size)[:size], strings.Repeat("../", size)[:size], fill} {
			dots(t, s, s)
		}
	}
}

func resolves(t *testing.T, base, ref, want string) {
	t.Helper()
	if u, e := Resolve(parsed(t, base), parsed(t, ref)); e != api.OK || u != parsed(t, want) {
		t.Errorf("Resolve(%.60q, %.60q) = %.80q, error %d, want %.80q", base, ref, written(u), e, want)
	}
}

func resolvesNot(t *testing.T, base, ref api.Url, want api.Errno) {
	t.Helper()
	if u, e := Resolve(base, ref); e != want || u != (api.Url{}) {
		t.Errorf("Resolve(%.60q, %.60q) = %.80q, error %d, want error %d", written(base), written(ref), written(u), e, want)
	}
}

// The examples of RFC 3986, 5.4.1 and 5.4.2, the strict way.
func TestPa1ResolveExamples(t *testing.T) {
	for ref, want := range map[string]string{
		"g:h": "g:h", "g": "http://a/b/c/g", "./g": "http://a/b/c/g", "g/": "http://a/b/c/g/", "/g": "http://a/g", "//g": "http://g", "?y": "http://a/b/c/d;p?y", "g?y": "http://a/b/c/g?y", "#s": "http://a/b/c/d;p?q#s", "g#s": "http://a/b/c/g#s", "g?y#s": "http://a/b/c/g?y#s", ";x": "http://a/b/c/;x", "g;x": "http://a/b/c/g;x", "g;x?y#s": "http://a/b/c/g;x?y#s", "": "http://a/b/c/d;p?q", ".": "http://a/b/c/", "./": "http://a/b/c/", "..": "http://a/b/", "../": "http://a/b/", "../g": "http://a/b/g", "../..": "http://a/", "../../": "http://a/", "../../g": "http://a/g",
		"../../../g": "http://a/g", "../../../../g": "http://a/g", "/./g": "http://a/g", "/../g": "http://a/g", "g.": "http://a/b/c/g.", ".g": "http://a/b/c/.g", "g..": "http://a/b/c/g..", "..g": "http://a/b/c/..g", "./../g": "http://a/b/g", "./g/.": "http://a/b/c/g/", "g/./h": "http://a/b/c/g/h", "g/../h": "http://a/b/c/h", "g;x=1/./y": "http://a/b/c/g;x=1/y", "g;x=1/../y": "http://a/b/c/y", "g?y/./x": "http://a/b/c/g?y/./x", "g?y/../x": "http://a/b/c/g?y/../x", "g#s/./x": "http://a/b/c/g#s/./x", "g#s/../x": "http://a/b/c/g#s/../x", "http:g": "http:g",
	} {
		resolves(t, "http://a/b/c/d;p?q", ref, want)
	}
}

func TestPa1Resolve(t *testing.T) {
	const whole = "s://u@h:1/p/./q?r#f"
	for _, x := range [][3]string{
		// With a Scheme: all is its own, the base's Scheme too.
		{whole, "s:", "s:"},
		{whole, "s:g", "s:g"},
		{whole, "x://v@i:2/g?y#z", "x://v@i:2/g?y#z"},
		{whole, "x://i", "x://i"},
		{whole, "x://i/a/../b/./c", "x://i/b/c"},
		{whole, "x:a/../b", "x:/b"},
		{whole, "x:../b", "x:b"},
		{whole, "X:./.", "X:"},
		{whole, "x:?", "x:?"},
		{whole, "x:#", "x:#"},

		// With an authority.
		{whole, "//", "s://"},
		{whole, "//i", "s://i"},
		{whole, "//v@i:2/g?y#z", "s://v@i:2/g?y#z"},
		{whole, "//@:", "s://@:"},
		{whole, "//i/..", "s://i/"},
		{whole, "//i/a/../../b", "s://i/b"},
		{whole, "//i?", "s://i?"},
		{whole, "//i//a", "s://i//a"},

		// With an empty Path: the base's, with its dots.
		{whole, "", "s://u@h:1/p/./q?r"},
		{whole, "?", "s://u@h:1/p/./q?"},
		{whole, "?y", "s://u@h:1/p/./q?y"},
		{whole, "?y#", "s://u@h:1/p/./q?y#"},
		{whole, "#", "s://u@h:1/p/./q?r#"},
		{whole, "#z", "s://u@h:1/p/./q?r#z"},
		{"s://h", "", "s://h"},
		{"s://h", "?y", "s://h?y"},
		{"s:", "", "s:"},
		{"s:..", "?", "s:..?"},
		{"s:p/..?r", "#z", "s:p/..?r#z"},

		// With a Path from the root.
		{whole, "/", "s://u@h:1/"},
		{whole, "/g", "s://u@h:1/g"},
		{whole, "/g/../i?y", "s://u@h:1/i?y"},
		{whole, "/../..", "s://u@h:1/"},
		{whole, "/..//g", "s://u@h:1//g"},
		{"s:p/q", "/g", "s:/g"},
		{"s:", "/g", "s:/g"},
		{"s://h", "/g", "s://h/g"},

		// With one that is not: behind the base's last `/`, the base's dots taken out too.
		{whole, "g", "s://u@h:1/p/g"},
		{whole, "g?", "s://u@h:1/p/g?"},
		{whole, "../g", "s://u@h:1/g"},
		{whole, ".", "s://u@h:1/p/"},
		{whole, "g/", "s://u@h:1/p/g/"},
		{whole, "./a:b", "s://u@h:1/p/a:b"},
		{"s://h/a/../b/", "g", "s://h/b/g"},
		{"s://h/a/..", "g", "s://h/a/g"},
		{"s://h/?a/b/c", "g", "s://h/g"},
		{"s://h/#a/b/c", "g", "s://h/g"},
		{"s://h//", "g", "s://h//g"},
		{"s://h//", "../g", "s://h/g"},

		// The base has an authority and no Path.
		{"s://h", "g", "s://h/g"},
		{"s://h?r", "g", "s://h/g"},
		{"s://h", "../g", "s://h/g"},
		{"s://h", ".", "s://h/"},
		{"s://", "g", "s:///g"},
		{"s://u@h:1", "g/../../i", "s://u@h:1/i"},

		// It has none.
		{"s:p", "g", "s:g"},
		{"s:p", "..", "s:"},
		{"s:p", "./a:b", "s:a:b"},
		{"s:", "g", "s:g"},
		{"s:", "../g", "s:g"},
		{"s:p/q", "g", "s:p/g"},
		{"s:p/q", "../g", "s:/g"},
		{"s:p/q", "..", "s:/"},
		{"s:/", "g", "s:/g"},
		{"s:/p", "..", "s:/"},
		{"s:?a/b", "g", "s:g"},
	} {
		resolves(t, x[0], x[1], x[2])
	}
}

// resolvesAs holds Resolve of two URLs that may be against this file's steps.
func resolvesAs(t *testing.T, base, ref api.Url) {
	t.Helper()
	want := resolved(base, ref)
	if base.Scheme == "" || !want.HasAuth && strings.HasPrefix(want.Path, "//") {
		resolvesNot(t, base, ref, api.ErrArg)
		return
	}
	if u, e := Resolve(base, ref); e != api.OK || u != want {
		t.Errorf("Resolve(%q, %q) = %+v, error %d, want %+v", written(base), written(ref), u, e, want)
	}
}

// forms are URLs with each Scheme, authority, Path, Query and Frag.
func forms(t *testing.T, schemes, authorities, paths, queries, frags []string) []api.Url {
	t.Helper()
	var all []api.Url
	for _, s := range schemes {
		for _, a := range authorities {
			for _, p := range paths {
				for _, q := range queries {
					for _, f := range frags {
						if u, e := url.Parse(s + a + p + q + f); e == api.OK {
							all = append(all, u)
						}
					}
				}
			}
		}
	}
	return all
}

func TestPa1ResolveEveryForm(t *testing.T) {
	paths := []string{"", "/", "/p", "p", "p/q", "/p/q", "/p/./q/", "..", "/..", "//p", "p//", "/.//p"}
	bases := forms(t, []string{"", "s:"}, []string{"", "//", "//h", "//u@[::1]:1"}, paths, []string{"", "?", "?r/s"}, []string{"", "#f/g"})
	paths = append(paths, "../..//g", "./a:b", "../g", "g/..", ".", "/./../g", "..//")
	refs := forms(t, []string{"", "s:", "x:"}, []string{"", "//", "//i", "//v@i:2"}, paths, []string{"", "?", "?y/.."}, []string{"", "#", "#z"})
	if len(bases) < 300 || len(refs) < 900 {
		t.Fatalf("only %d bases and %d references", len(bases), len(refs))
	}
	for _, base := range bases {
		for _, ref := range refs {
			resolvesAs(t, base, ref)
		}
	}
}

func TestPa1ResolveEveryPath(t *testing.T) {
	var refs []api.Url
	grown("", 5, strings.Split("/.a:", ""), func(s string) {
		if u, e := url.Parse(s); e == api.OK {
			refs = append(refs, u)
		}
	})
	grown("", 4, strings.Split("/.b", ""), func(s string) {
		for _, head := range []string{"s:", "s://h"} {
			if base, e := url.Parse(head + s); e == api.OK {
				for _, ref := range refs {
					resolvesAs(t, base, ref)
				}
			}
		}
	})
}

// wrong are URLs that may not be.
func wrong() map[string]api.Url {
	return map[string]api.Url{
		"a Scheme of none":         {Scheme: "1", Path: "p"},
		"a Scheme with a mark":     {Scheme: "http:", HasAuth: true, Host: "h", Path: "/"},
		"no HasAuth":               {Scheme: "http", Host: "h", Path: "/"},
		"no HasUser":               {Scheme: "http", HasAuth: true, User: "u", Host: "h", Path: "/"},
		"no HasPort":               {Scheme: "http", HasAuth: true, Host: "h", Port: "80", Path: "/"},
		"no HasQuery":              {Scheme: "http", HasAuth: true, Host: "h", Path: "/", Query: "q"},
		"no HasFrag":               {Scheme: "http", HasAuth: true, Host: "h", Path: "/", Frag: "f"},
		"a Host with a User":       {Scheme: "http", HasAuth: true, Host: "u@h", Path: "/"},
		"a Host with a Port":       {Scheme: "http", HasAuth: true, Host: "h:80", Path: "/"},
		"a Host with a Path":       {Scheme: "http", HasAuth: true, Host: "h/", Path: "/"},
		"a Host with a blank":      {Scheme: "http", HasAuth: true, Host: "h ", Path: "/"},
		"a Host cut within `%`":    {Scheme: "http", HasAuth: true, Host: "h%4", Path: "/"},
		"an IPv6 without brackets": {Scheme: "http", HasAuth: true, Host: "::1", Path: "/"},
		"an IPv4 in brackets":      {Scheme: "http", HasAuth: true, Host: "[1.2.3.4]", Path: "/"},
		"a Port of no digits":      {Scheme: "http", HasAuth: true, Host: "h", Port: "+80", HasPort: true, Path: "/"},
		"a Port below nought":      {Scheme: "http", HasAuth: true, Host: "h", Port: "-1", HasPort: true, Path: "/"},
		"a Path without `/`":       {Scheme: "http", HasAuth: true, Host: "h", Path: "p"},
		"a Path with a Query":      {Scheme: "http", HasAuth: true, Host: "h", Path: "/?"},
		"a Path cut within `%`":    {Scheme: "http", HasAuth: true, Host: "h", Path: "/%"},
		"a Path of digits no more": {Scheme: "http", HasAuth: true, Host: "h", Path: "/%2g"},
		"a Path with a bracket":    {Scheme: "http", HasAuth: true, Host: "h", Path: "/["},
		"a Path that is no ASCII":  {Scheme: "http", HasAuth: true, Host: "h", Path: "/é"},
		"a Query with a Frag":      {Scheme: "http", HasAuth: true, Host: "h", HasQuery: true, Query: "#"},
		"a Query cut within `%`":   {Scheme: "http", HasAuth: true, Host: "h", HasQuery: true, Query: "%4"},
		"a Path with an authority": {Scheme: "http", Path: "//h/"},
		"a Frag with a Frag":       {Scheme: "http", Path: "p", HasFrag: true, Frag: "#"},
		"2049 bytes":               {Scheme: "http", HasAuth: true, Host: "h", Path: "/" + strings.Repeat("a", 2040)},
		"2049 bytes of dots":       {Scheme: "http", HasAuth: true, Host: "h", Path: "/" + strings.Repeat("./", 1020)},
	}
}

func TestPa1ResolveWrong(t *testing.T) {
	good := parsed(t, "http://h/p")
	for name, u := range wrong() {
		if url.Check(u) != api.ErrArg {
			t.Errorf("%s: it may be", name)
		}
		resolvesNot(t, u, good, api.ErrArg)
		resolvesNot(t, u, api.Url{}, api.ErrArg)
		resolvesNot(t, good, u, api.ErrArg)
		resolvesNot(t, u, u, api.ErrArg)
		u.Scheme = ""
		if url.Check(u) != api.OK {
			resolvesNot(t, good, u, api.ErrArg)
		}
	}
}

func TestPa1ResolveNoScheme(t *testing.T) {
	for _, base := range []string{"", "//h", "//h/p", "/p", "p", "?q", "#f", "//u@h:1/p?q#f"} {
		for _, ref := range []string{"", "g", "/g", "//i", "?y", "#z", "http://i/", "s:"} {
			resolvesNot(t, parsed(t, base), parsed(t, ref), api.ErrArg)
		}
	}
}

// Without an authority no path may begin with `//`.
func TestPa1ResolveMayNotBe(t *testing.T) {
	for _, x := range [][2]string{
		{"s:", "/.//g"}, {"s:p", "/..//g"}, {"s:/p", "/a/..//g"}, {"s://h", "x:/.//g"}, {"s://h", "x:a/..//g"}, {"s:p/q", "..//g"}, {"s:/p", ".//g"}, {"s:/", "..//"}, {"s:/p/q", "../..//g#z"}, {"s:/.//p", "g"}, {"s:p/..//q", "g?y"}, {"s:/a/..//b/", "."},
	} {
		resolvesNot(t, parsed(t, x[0]), parsed(t, x[1]), api.ErrArg)
	}
	// What begins so with an authority may be, and what is taken over as it is.
	resolves(t, "s://h", "/.//g", "s://h//g")
	resolves(t, "s:/.//p", "", "s:/.//p")
	resolves(t, "s:/.//p", "?y", "s:/.//p?y")
}

// resolvesLong holds Resolve against what comes of it, of size bytes.
func resolvesLong(t *testing.T, base, ref api.Url, size int) {
	t.Helper()
	want := resolved(base, ref)
	if len(written(want)) != size {
		t.Fatalf("what comes of %.60q and %.60q has %d bytes, want %d", written(base), written(ref), len(written(want)), size)
	}
	if size > 2048 {
		resolvesNot(t, base, ref, api.ErrLong)
		return
	}
	if u, e := Resolve(base, ref); e != api.OK || u != want {
		t.Errorf("Resolve(%.60q, %.60q), of %d bytes: error %d", written(base), written(ref), size, e)
	}
}

// What comes of these is the base's text and the reference's, one behind the other; one of them is filled up.
func TestPa1ResolveLong(t *testing.T) {
	for _, x := range [][3]string{
		// The reference, behind the base's Scheme.
		{"http:", "//u%s@h:1/p?q#f", "a"}, {"http:", "//u@h%s:1/p?q#f", "a"}, {"http:", "//u@h:1%s/p?q#f", "1"}, {"http:", "//u@h:1/p%s?q#f", "a"}, {"http:", "//u@h:1/p?q%s#f", "a"}, {"http:", "//u@h:1/p?q#f%s", "a"},
		{"http:", "//%s", "a"}, {"http:", "//%s@", "a"}, {"http:", "//:%s", "1"}, {"http:", "///%s", "a"}, {"http:", "//?%s", "a"}, {"http:", "//#%s", "a"}, {"http:", "//%s@:?#", "a"}, {"http:", "//%s/?", "a"}, {"http:", "/%s", "a"}, {"http:", "g%s", "a"},

		// Behind the base's authority, Path and Query.
		{"http://u@h:1", "/%s", "a"}, {"http://h", "/%s?y#z", "a"}, {"http://h:", "/?%s", "a"}, {"http://@h", "/#%s", "a"}, {"http://h", "/%s#", "a"}, {"http://h/p/", "g%s", "a"},
		{"http://u@h:1/p", "?%s", "a"}, {"http:p", "?%s#", "a"}, {"http://h/p?q", "#%s", "a"}, {"http:?q", "#%s", "a"}, {"http:p", "#%s", "a"},

		// The base, ahead of it.
		{"s%s:", "//h", "a"}, {"s%s:", "/g", "a"}, {"s%s:", "?y", "a"}, {"http://%s@h", "/g", "a"}, {"http://u@%s", "/g?y#z", "a"}, {"http://u@h:%s", "/g", "1"}, {"http://h/%s/", "g", "a"}, {"http://h/%s", "?y", "a"}, {"http://h/?%s", "#z", "a"}, {"http:%s", "#", "a"}, {"http:%s/", "g", "a"},
	} {
		for _, size := range []int{2047, 2048, 2049, 2050} {
			fill := strings.Repeat(x[2], size-len(x[0]+x[1])+len("%s"))
			base, ref := strings.ReplaceAll(x[0], "%s", fill), strings.ReplaceAll(x[1], "%s", fill)
			if len(base) <= 2048 {
				resolvesLong(t, parsed(t, base), parsed(t, ref), size)
			}
		}
	}
}

func TestPa1ResolveLongDots(t *testing.T) {
	// What is put behind the base's path may be longer than what comes of it.
	base := parsed(t, "http://a/"+strings.Repeat("b/", 1000))
	ref := parsed(t, strings.Repeat("../", 600)+"c")
	want := parsed(t, "http://a/"+strings.Repeat("b/", 400)+"c")
	if u, e := Resolve(base, ref); e != api.OK || u != want {
		t.Errorf("Resolve of 600 dots out of 1000 = %.60q, error %d", written(u), e)
	}
	base = parsed(t, "s:"+strings.Repeat("./", 1023))
	resolves(t, written(base), strings.Repeat("../", 682)+"g", "s:g")
	resolves(t, written(base), strings.Repeat("../", 682)+".a", "s:.a")
}

func TestPa1ResolveLongAheadOfMayNotBe(t *testing.T) {
	fill := strings.Repeat("a", 2042)
	resolvesNot(t, parsed(t, "http:"), parsed(t, "/.//"+fill[1:]), api.ErrArg)
	resolvesNot(t, parsed(t, "http:"), parsed(t, "/.//"+fill), api.ErrLong)
	resolvesNot(t, parsed(t, "http:/b/"), parsed(t, "..//"+fill), api.ErrLong)
	// A base that may not be comes first.
	resolvesNot(t, parsed(t, "//h"), parsed(t, "/.//"+fill), api.ErrArg)
	resolvesNot(t, api.Url{Scheme: "1"}, parsed(t, "/"+fill+"bcde"), api.ErrArg)
	resolvesNot(t, parsed(t, "http://h"), api.Url{Path: "/" + fill + fill}, api.ErrArg)
}

// What this file reads URLs for us by, out of their texts.
var (
	forUs = regexp.MustCompile(`^((?i)https?)://([^][/?#@:]+|\[[^][/?#@]+\])(?::([0-9]*))?(/[^?#]*)?(\?[^#]*)?$`)
	ports = regexp.MustCompile(`^0*([1-9][0-9]{0,3}|[1-5][0-9]{4}|6[0-4][0-9]{3}|65[0-4][0-9]{2}|655[0-2][0-9]|6553[0-5])$`)
	signs = regexp.MustCompile(`%[0-9A-Fa-f]{2}|.`)
	plain = regexp.MustCompile(`^[A-Za-z0-9._~-]$`)
)

// normalText is a part with its signs in normal form; a host in lower case, too.
func normalText(s string, host bool) string {
	return signs.ReplaceAllStringFunc(s, func(x string) string {
		if len(x) == 3 {
			c, _ := strconv.ParseUint(x[1:], 16, 8)
			if !plain.MatchString(string(rune(c))) {
				return strings.ToUpper(x)
			}
			x = string(rune(c))
		}
		if host {
			return strings.ToLower(x)
		}
		return x
	})
}

// normal is what is to be answered of one URL.
type normal struct {
	text, origin string
	port         int
}

// normalOf is a URL's normal form, its origin and its port, by patterns; false: it is none for us.
func normalOf(s string) (normal, bool) {
	p := forUs.FindStringSubmatch(s)
	if p == nil {
		return normal{}, false
	}
	scheme, host := strings.ToLower(p[1]), normalText(p[2], true)
	usual := map[string]string{"http": "80", "https": "443"}[scheme]
	port := usual
	if p[3] != "" {
		d := ports.FindStringSubmatch(p[3])
		if d == nil {
			return normal{}, false
		}
		port = d[1]
	}
	shown := ":" + port
	if port == usual {
		shown = ""
	}
	path := dotless(normalText(p[4], false))
	if path == "" {
		path = "/"
	}
	number, _ := strconv.Atoi(port)
	return normal{scheme + "://" + host + shown + path + normalText(p[5], false), scheme + "://" + host + ":" + port, number}, true
}

// normals holds Normal, Origin and Port of a URL against what they are to answer.
func normals(t *testing.T, s string, want normal) {
	t.Helper()
	u := parsed(t, s)
	if n, e := Normal(u); e != api.OK || n != parsed(t, want.text) {
		t.Errorf("Normal(%.80q) = %.80q, error %d, want %.80q", s, written(n), e, want.text)
	}
	if o, e := Origin(u); e != api.OK || o != want.origin {
		t.Errorf("Origin(%.80q) = %.80q, error %d, want %.80q", s, o, e, want.origin)
	}
	if p, e := Port(u); e != api.OK || p != want.port {
		t.Errorf("Port(%.80q) = %d, error %d, want %d", s, p, e, want.port)
	}
}

func normalsNot(t *testing.T, u api.Url) {
	t.Helper()
	if n, e := Normal(u); e != api.ErrArg || n != (api.Url{}) {
		t.Errorf("Normal(%.80q) = %.80q, error %d, want error %d", written(u), written(n), e, api.ErrArg)
	}
	if o, e := Origin(u); e != api.ErrArg || o != "" {
		t.Errorf("Origin(%.80q) = %.80q, error %d, want error %d", written(u), o, e, api.ErrArg)
	}
	if p, e := Port(u); e != api.ErrArg || p != 0 {
		t.Errorf("Port(%.80q) = %d, error %d, want error %d", written(u), p, e, api.ErrArg)
	}
}

// normalsAs holds a text, if it is a URL, against this file's patterns, and tells whether it is one for us.
func normalsAs(t *testing.T, s string) bool {
	t.Helper()
	u, e := url.Parse(s)
	if e != api.OK {
		return false
	}
	want, ok := normalOf(s)
	if ok {
		normals(t, s, want)
	} else {
		normalsNot(t, u)
	}
	return ok
}

func TestPa2Normal(t *testing.T) {
	for s, want := range map[string]normal{
		"HTTP://EX.com:080/%7ea/./b%2f": {"http://ex.com/~a/b%2F", "http://ex.com:80", 80},

		// Schemes in any case.
		"http://h/":   {"http://h/", "http://h:80", 80},
		"https://h/":  {"https://h/", "https://h:443", 443},
		"hTtP://h/":   {"http://h/", "http://h:80", 80},
		"HTTPS://h/":  {"https://h/", "https://h:443", 443},
		"HttpS://h:1": {"https://h:1/", "https://h:1", 1},

		// Paths.
		"http://h":                {"http://h/", "http://h:80", 80},
		"http://h?":               {"http://h/?", "http://h:80", 80},
		"http://h?q":              {"http://h/?q", "http://h:80", 80},
		"http://h/?":              {"http://h/?", "http://h:80", 80},
		"http://h/..":             {"http://h/", "http://h:80", 80},
		"http://h/a/../../b/.":    {"http://h/b/", "http://h:80", 80},
		"http://h//a//../b":       {"http://h//a/b", "http://h:80", 80},
		"http://h/A/b":            {"http://h/A/b", "http://h:80", 80},
		"http://h/?Q=/../a/./":    {"http://h/?Q=/../a/./", "http://h:80", 80},
		"http://h/...":            {"http://h/...", "http://h:80", 80},
		"http://h/a/%2e":          {"http://h/a/", "http://h:80", 80},
		"http://h/a/%2E%2e/b":     {"http://h/b", "http://h:80", 80},
		"http://h/a/.%2e":         {"http://h/", "http://h:80", 80},
		"http://h/a/%2e.":         {"http://h/", "http://h:80", 80},
		"http://h/%2e/a":          {"http://h/a", "http://h:80", 80},
		"http://h/%2ea":           {"http://h/.a", "http://h:80", 80},
		"http://h/a%2f..%2fb":     {"http://h/a%2F..%2Fb", "http://h:80", 80},
		"http://h/a%2f%2e%2e":     {"http://h/a%2F..", "http://h:80", 80},
		"http://h/a/%252e%252e/b": {"http://h/a/%252e%252e/b", "http://h:80", 80},
		"http://h/%25%32%65/":     {"http://h/%252e/", "http://h:80", 80},
		"http://h/?%2e%2E/%2f":    {"http://h/?../%2F", "http://h:80", 80},

		// Signs, in Host, Path and Query.
		"http://%41%5a%61%7A%30%39%2d%2E%5F%7e/":   {"http://azaz09-._~/", "http://azaz09-._~:80", 80},
		"http://h/%41%5a%61%7A%30%39%2d%2E%5F%7e":  {"http://h/AZaz09-._~", "http://h:80", 80},
		"http://h/?%41%5a%61%7A%30%39%2d%2E%5F%7e": {"http://h/?AZaz09-._~", "http://h:80", 80},
		"http://H%2f%3A%aF%5b/":                    {"http://h%2F%3A%AF%5B/", "http://h%2F%3A%AF%5B:80", 80},
		"http://h/%2f%3A%aF%5b%ff%00":              {"http://h/%2F%3A%AF%5B%FF%00", "http://h:80", 80},
		"http://h/?%2f%3A%aF%5b%ff%00":             {"http://h/?%2F%3A%AF%5B%FF%00", "http://h:80", 80},
		"http://%C3%89.EX/":                        {"http://%C3%89.ex/", "http://%C3%89.ex:80", 80},
		"http://%7fA%40A%60A%7bA/":                 {"http://%7Fa%40a%60a%7Ba/", "http://%7Fa%40a%60a%7Ba:80", 80},
		"http://%25%34%31A/":                       {"http://%2541a/", "http://%2541a:80", 80},
		"http://%2e/":                              {"http://./", "http://.:80", 80},
		"http://%31%32%37.1/":                      {"http://127.1/", "http://127.1:80", 80},

		// Hosts of any kind.
		"http://[::FFFF:1.2.3.4]:80/": {"http://[::ffff:1.2.3.4]/", "http://[::ffff:1.2.3.4]:80", 80},
		"https://[ABCD::]:8443":       {"https://[abcd::]:8443/", "https://[abcd::]:8443", 8443},
		"http://0X7F.1/":              {"http://0x7f.1/", "http://0x7f.1:80", 80},
		"http://A!$&'()*+,;=_B/":      {"http://a!$&'()*+,;=_b/", "http://a!$&'()*+,;=_b:80", 80},

		// Ports.
		"http://h:/":       {"http://h/", "http://h:80", 80},
		"https://h:":       {"https://h/", "https://h:443", 443},
		"http://h:80/":     {"http://h/", "http://h:80", 80},
		"http://h:443/":    {"http://h:443/", "http://h:443", 443},
		"https://h:80/":    {"https://h:80/", "https://h:80", 80},
		"https://h:443/":   {"https://h/", "https://h:443", 443},
		"http://h:0080/":   {"http://h/", "http://h:80", 80},
		"https://h:00443/": {"https://h/", "https://h:443", 443},
		"http://h:0443/":   {"http://h:443/", "http://h:443", 443},
		"http://h:1/":      {"http://h:1/", "http://h:1", 1},
		"http://h:01/":     {"http://h:1/", "http://h:1", 1},
		"http://h:65535/":  {"http://h:65535/", "http://h:65535", 65535},
		"http://h:8080/":   {"http://h:8080/", "http://h:8080", 8080},
		"http://h:008000/": {"http://h:8000/", "http://h:8000", 8000},
		"http://h:0000000000000000000000000000000000065535/": {"http://h:65535/", "http://h:65535", 65535},
		"https://h:" + strings.Repeat("0", 2033) + "65535":   {"https://h:65535/", "https://h:65535", 65535},
		"http://h:" + strings.Repeat("0", 2037) + "80":       {"http://h/", "http://h:80", 80},
		"http://h/" + strings.Repeat("%7e", 679) + "aa":      {"http://h/" + strings.Repeat("~", 679) + "aa", "http://h:80", 80},
		"http://h/" + strings.Repeat("./", 1019) + "a":       {"http://h/a", "http://h:80", 80},
		"http://h/" + strings.Repeat("a", 2039):              {"http://h/" + strings.Repeat("a", 2039), "http://h:80", 80},
		"http://" + strings.Repeat("A", 2040) + "/":          {"http://" + strings.Repeat("a", 2040) + "/", "http://" + strings.Repeat("a", 2040) + ":80", 80},
	} {
		normals(t, s, want)
		if got, ok := normalOf(s); !ok || got != want {
			t.Errorf("this file's patterns make %.80v of %.80q, %v", got, s, ok)
		}
	}
}

func TestPa2NotForUs(t *testing.T) {
	for _, s := range []string{
		// Other Schemes, and none.
		"", "//h/", "h", "/", "ftp://h/", "ftp://a/", "httpx://h/", "htt://h/", "http+s://h/", "https1://h/", "xhttp://h/", "ws://h/", "h://h/", "file:///p", "file://h/p", "FTP://h:80/",

		// No authority, or an empty Host.
		"http:", "http:h", "http:/h", "https:/h/p?q", "http://", "http:///", "http:///p", "https://?q", "http://:80/", "http://:", "http://:/",

		// A User.
		"http://u@h/", "http://u:p@h/", "http://@h/", "http://@h:80/", "https://a@b@h/", "http://@/", "http://%75@h/",

		// A Frag.
		"http://h/#f", "http://h/#", "http://h#", "http://h?q#", "https://h:443/p?q#f",

		// Ports.
		"http://h:0/", "http://h:00/", "http://h:00000000/", "http://h:65536/", "http://h:065536/", "http://h:65540/", "http://h:66000/", "http://h:70000/", "http://h:99999/", "http://h:100000/", "http://h:0100000/", "http://h:800000/", "https://h:0443000/",
		"http://h:4294967296/", "http://h:4294967376/", "http://h:9223372036854775807/", "http://h:9223372036854775808/", "http://h:18446744073709551616/", "http://h:18446744073709551696/", "http://h:340282366920938463463374607431768211536/",
		"http://h:" + strings.Repeat("0", 2039), "http://h:" + strings.Repeat("9", 2039), "http://h:1" + strings.Repeat("0", 2038), "https://h:" + strings.Repeat("0", 2033) + "65536",
	} {
		normalsNot(t, parsed(t, s))
		if n, ok := normalOf(s); ok {
			t.Errorf("this file's patterns make %.80v of %.80q", n, s)
		}
	}
}

func TestPa2Wrong(t *testing.T) {
	for _, u := range wrong() {
		normalsNot(t, u)
		if u.Scheme == "http" {
			u.Scheme = "HTTPS"
			normalsNot(t, u)
		}
	}
	u := parsed(t, "http://h:80/p?q")
	normals(t, written(u), normal{"http://h/p?q", "http://h:80", 80})
	for _, spoil := range []func(u *api.Url){
		func(u *api.Url) { u.HasAuth = false },
		func(u *api.Url) { u.HasPort = false },
		func(u *api.Url) { u.HasQuery = false },
		func(u *api.Url) { u.HasUser = true },
		func(u *api.Url) { u.HasFrag = true },
		func(u *api.Url) { u.User = "u" },
		func(u *api.Url) { u.Frag = "f" },
		func(u *api.Url) { u.Host = "" },
		func(u *api.Url) { u.Scheme = "" },
	} {
		x := u
		spoil(&x)
		normalsNot(t, x)
	}
}

func TestPa2EveryPort(t *testing.T) {
	for n := range 1 << 17 {
		for _, s := range []string{"http://h:" + strconv.Itoa(n), "https://h:00" + strconv.Itoa(n) + "/"} {
			p, e := Port(parsed(t, s))
			if n < 1 || n > 65535 {
				if p != 0 || e != api.ErrArg {
					t.Errorf("Port(%q) = %d, error %d", s, p, e)
				}
			} else if p != n || e != api.OK {
				t.Errorf("Port(%q) = %d, error %d", s, p, e)
			}
		}
	}
}

func TestPa2EverySign(t *testing.T) {
	for c := range 256 {
		digits := strconv.FormatInt(int64(c)+0x100, 16)[1:]
		for _, sign := range []string{"%" + digits, "%" + strings.ToUpper(digits)} {
			for _, form := range []string{"http://@/p?q", "http://a@B@c/p?q", "http://h:80/@", "http://h/a@B@/c", "http://h/a/@/c", "http://h/a/@@/c", "http://h/?@", "https://h?a@B@c/../"} {
				if s := strings.ReplaceAll(form, "@", sign); !normalsAs(t, s) {
					t.Errorf("%q is none for us", s)
				}
			}
		}
	}
}

func TestPa2EveryByte(t *testing.T) {
	for c := range 256 {
		for _, form := range []string{"http://@", "http://a@b/", "@ttp://h/", "http@://h/", "http://h:@/", "http://h:8@/", "http://h/@", "http://h/a@b", "http://h/.@/a", "http://h?@"} {
			normalsAs(t, strings.ReplaceAll(form, "@", string([]byte{byte(c)})))
		}
	}
}

func TestPa2Short(t *testing.T) {
	ours := 0
	count := func(s string) {
		if normalsAs(t, s) {
			ours++
		}
	}
	grown("http://", 4, []string{"h", "H", "%41", "%2e", "%3f", ":", "0", "80", "443", "/", ".", "?", "#", "@", "[::A]"}, count)
	grown("HTTPS://h", 4, []string{"%2e", ".", "%2F", "/", ":", "443", "?", "#", "%"}, count)
	grown("", 4, []string{"http", "https", "HTTP", "s", ":", "/", "//", "h", "@", "8", "?"}, count)
	grown("http://h/", 6, []string{".", "%2E", "/", "a", "?"}, count)
	if ours < 10000 {
		t.Errorf("only %d URLs for us", ours)
	}
}

// The normal form is told, though it has one byte more than a URL may have.
func TestPa2LongNoPath(t *testing.T) {
	for _, rest := range []string{"", "?q"} {
		host := strings.Repeat("H", 2048-len("http://")-len(rest))
		u := parsed(t, "http://"+host+rest)
		want := api.Url{Scheme: "http", HasAuth: true, Host: strings.ToLower(host), Path: "/", Query: u.Query, HasQuery: u.HasQuery}
		if n, e := Normal(u); e != api.OK || n != want {
			t.Errorf("Normal of 2048 bytes without a Path: %d bytes, error %d", len(written(n)), e)
		}
		if o, e := Origin(u); e != api.OK || o != "http://"+want.Host+":80" {
			t.Errorf("Origin of 2048 bytes without a Path: %d bytes, error %d", len(o), e)
		}
		if p, e := Port(u); e != api.OK || p != 80 {
			t.Errorf("Port of 2048 bytes without a Path: %d, error %d", p, e)
		}
	}
}

func TestPa3DotsTwice(t *testing.T) {
	grown("", 8, strings.Split("/.a", ""), func(s string) {
		once := Dots(s)
		dots(t, once, once)
	})
	for _, size := range []int{2048, 2049} {
		once := Dots(strings.Repeat("/a/..", size)[:size])
		dots(t, once, once)
	}
}

func TestPa3NormalTwice(t *testing.T) {
	origins := map[string]string{}
	ours := 0
	grown("hTTp://", 5, []string{"h", "H", "%48", "%2e", "%25", "%2f", ":", "080", "8", "/", "..", "?"}, func(s string) {
		u, _ := url.Parse(s)
		once, e := Normal(u)
		if e != api.OK {
			return
		}
		ours++
		if twice, e := Normal(once); e != api.OK || twice != once {
			t.Errorf("Normal(%q) = %q, error %d", written(once), written(twice), e)
		}
		origin, e := Origin(u)
		if other, ok := origins[written(once)]; e != api.OK || ok && other != origin {
			t.Errorf("Origin(%q) = %q, error %d, but %q of another one of its normal form", s, origin, e, other)
		}
		origins[written(once)] = origin
		if again, e := Origin(once); e != api.OK || again != origin {
			t.Errorf("Origin(%q) = %q, error %d, want %q", written(once), again, e, origin)
		}
		p, e := Port(u)
		if again, f := Port(once); e != api.OK || f != api.OK || again != p {
			t.Errorf("Port(%q) = %d, error %d, want %d", written(once), again, f, p)
		}
	})
	if ours < 10000 || len(origins) > ours/2 {
		t.Errorf("only %d URLs for us of %d normal forms", ours, len(origins))
	}
}

func TestPa3ResolveScheme(t *testing.T) {
	for _, base := range []string{"s:", "S:p", "s://h", "s://h/p/q?r"} {
		grown("", 5, strings.Split("x:/.?#", ""), func(s string) {
			ref, e := url.Parse(s)
			if e != api.OK {
				return
			}
			want := parsed(t, base).Scheme
			if ref.Scheme != "" {
				want = ref.Scheme
			}
			if u, e := Resolve(parsed(t, base), ref); e == api.OK && u.Scheme != want {
				t.Errorf("Resolve(%q, %q) has the Scheme %q, want %q", base, s, u.Scheme, want)
			}
		})
	}
}

// apart tells whether an answer lies outside of an argument.
func apart(answer, argument string) bool {
	if answer == "" || argument == "" {
		return true
	}
	from := uintptr(unsafe.Pointer(unsafe.StringData(argument)))
	at := uintptr(unsafe.Pointer(unsafe.StringData(answer)))
	return at >= from+uintptr(len(argument)) || at+uintptr(len(answer)) <= from
}

// texts are a URL's.
func texts(u api.Url) []string {
	return []string{u.Scheme, u.User, u.Host, u.Port, u.Path, u.Query, u.Frag}
}

func allApart(t *testing.T, name string, answers, arguments []string) {
	t.Helper()
	for _, x := range answers {
		for _, y := range arguments {
			if !apart(x, y) {
				t.Errorf("%s's %q is a piece of what was handed in", name, x)
			}
		}
	}
}

func TestR3Answers(t *testing.T) {
	for _, s := range []string{"/path", "a", "/", "./a", strings.Repeat("a", 2049)} {
		s = strings.Clone(s)
		allApart(t, "Dots", []string{Dots(s)}, []string{s})
	}
	base := parsed(t, "http://u@h:80/p?q#f")
	for _, s := range []string{"", "g", "/g", "?y", "#z", "//v@i:81/g?y#z", "x://v@i:81/g?y#z", "x:g"} {
		ref := parsed(t, s)
		u, _ := Resolve(base, ref)
		allApart(t, "Resolve", texts(u), append(texts(base), texts(ref)...))
	}
	u := parsed(t, "http://h:8081/p?q")
	n, _ := Normal(u)
	allApart(t, "Normal", texts(n), texts(u))
	o, _ := Origin(u)
	allApart(t, "Origin", []string{o}, texts(u))
}

func TestR1LongTexts(t *testing.T) {
	const size = 1 << 20
	good := parsed(t, "http://h/")
	for _, piece := range []string{"a", "/", ".", "../", "/..", "%", "%41", "0", "[", "@", ":", "\x00", "\xff"} {
		s := strings.Repeat(piece, size)
		dots(t, s, s)
		for _, u := range []api.Url{{Scheme: s}, {Scheme: "http", HasAuth: true, Host: s}, {Scheme: "http", HasAuth: true, Host: "h", HasPort: true, Port: s}, {Scheme: "http", HasAuth: true, HasUser: true, User: s}, {Scheme: "http", HasAuth: true, Host: "h", Path: s}, {Scheme: "http", HasAuth: true, Host: "h", HasQuery: true, Query: s}, {Scheme: "http", HasFrag: true, Frag: s}} {
			normalsNot(t, u)
			resolvesNot(t, u, good, api.ErrArg)
			resolvesNot(t, good, u, api.ErrArg)
		}
	}
}
