package http

import (
	"bytes"
	"math"
	"math/rand"
	"regexp"
	"slices"
	"strconv"
	"strings"
	"testing"
	"unsafe"

	"lantern/api"
	"lantern/chunk"
	"lantern/header"
)

// What this file reads messages by. (A pattern's end is the text's, not a line's.)
var (
	methods      = regexp.MustCompile("^[-!#$%&'*+.^_`|~0-9A-Za-z]+$")
	targets      = regexp.MustCompile(`^[!-~]+$`)
	reasons      = regexp.MustCompile(`^[ -~]*$`)
	requestLine  = regexp.MustCompile("^([-!#$%&'*+.^_`|~0-9A-Za-z]+) ([!-~]+) HTTP/1\\.1\r?\n$")
	responseLine = regexp.MustCompile("^HTTP/1\\.1 ([1-5][0-9][0-9])(?: ([ -~]*))?\r?\n$")
	lengthNames  = regexp.MustCompile(`^[Cc][Oo][Nn][Tt][Ee][Nn][Tt]-[Ll][Ee][Nn][Gg][Tt][Hh]$`)
	codingNames  = regexp.MustCompile(`^[Tt][Rr][Aa][Nn][Ss][Ff][Ee][Rr]-[Ee][Nn][Cc][Oo][Dd][Ii][Nn][Gg]$`)
	codings      = regexp.MustCompile(`^[Cc][Hh][Uu][Nn][Kk][Ee][Dd]$`)
	lengths      = regexp.MustCompile(`^[0-9]{1,8}$`)
)

// message is what is read of either kind: Method and Target, or Status and Reason, and what follows.
type message struct {
	one, two string
	headers  []api.Header
	body     string
}

func (m message) same(o message) bool {
	return m.one == o.one && m.two == o.two && slices.Equal(m.headers, o.headers) && m.body == o.body
}

func ofRequest(r api.Request) message {
	return message{r.Method, r.Target, r.Headers, string(r.Body)}
}

func ofResponse(r api.Response) message {
	m := message{"", r.Reason, r.Headers, string(r.Body)}
	if r.Status != 0 {
		m.one = strconv.Itoa(r.Status)
	}
	return m
}

// requestOf is what ParseRequest is to tell, by this file's patterns, and by layers 9 and 10 of headers and chunks.
func requestOf(s string) (message, int, api.Errno) {
	m, n, e := headOf(s, requestLine, 2048)
	if e != api.OK {
		return message{}, 0, e
	}
	return wholeOf(m, s, n, 0)
}

// responseOf is what ParseResponse is to tell, likewise.
func responseOf(s string) (message, int, api.Errno) {
	m, n, e := headOf(s, responseLine, 128)
	if e != api.OK {
		return message{}, 0, e
	}
	if m.one == "204" || m.one == "304" {
		return m, n, api.OK
	}
	return wholeOf(m, s, n, len(s)-n)
}

// headOf is a message without its body, and how many bytes it has so.
func headOf(s string, line *regexp.Regexp, most int) (message, int, api.Errno) {
	fed := strings.Index(s, "\n")
	if fed >= 4096 || fed < 0 && len(s) > 4096 {
		return message{}, 0, api.ErrLong
	}
	if fed < 0 {
		return message{}, 0, api.ErrMore
	}
	p := line.FindStringSubmatch(s[:fed+1])
	if p == nil || len(p[2]) > most {
		return message{}, 0, api.ErrText
	}
	l, n, e := header.Parse([]byte(s[fed+1:]))
	return message{p[1], p[2], l, ""}, fed + 1 + n, e
}

// wholeOf is a message whose head has n bytes, with its body, of unsaid bytes if the headers say nothing.
func wholeOf(m message, s string, n, unsaid int) (message, int, api.Errno) {
	body, size, e := bodyOf(m, s[n:], unsaid)
	if e != api.OK {
		return message{}, 0, e
	}
	m.body = body
	return m, n + size, api.OK
}

func bodyOf(m message, rest string, size int) (string, int, api.Errno) {
	var said, coded []string
	for _, h := range m.headers {
		switch {
		case lengthNames.MatchString(h.Name):
			said = append(said, h.Value)
		case codingNames.MatchString(h.Name):
			coded = append(coded, h.Value)
		}
	}
	switch {
	case len(coded) == 1 && len(said) == 0 && codings.MatchString(coded[0]):
		b, n, e := chunk.Decode([]byte(rest))
		return string(b), n, e
	case len(coded) > 0:
		return "", 0, api.ErrText
	case len(said) > 0:
		if len(slices.Compact(said)) > 1 || !lengths.MatchString(said[0]) {
			return "", 0, api.ErrText
		}
		size, _ = strconv.Atoi(said[0])
	}
	switch {
	case size > 32768:
		return "", 0, api.ErrLong
	case size > len(rest):
		return "", 0, api.ErrMore
	}
	return rest[:size], size, api.OK
}

// linesOf is headers put together without the empty line, whether they may be or not.
func linesOf(l []api.Header) string {
	var s strings.Builder
	for _, h := range l {
		s.WriteString(h.Name + ": " + h.Value + "\r\n")
	}
	return s.String()
}

// sentOf is a message put together, whether it may be or not.
func sentOf(first string, l []api.Header, body []byte, counted bool) string {
	s := first + "\r\n" + linesOf(l)
	if counted {
		s += "Content-Length: " + strconv.Itoa(len(body)) + "\r\n"
	}
	return s + "\r\n" + string(body)
}

func sentRequest(r api.Request) string {
	return sentOf(r.Method+" "+r.Target+" HTTP/1.1", r.Headers, r.Body, len(r.Body) > 0)
}

func sentResponse(r api.Response) string {
	return sentOf("HTTP/1.1 "+strconv.Itoa(r.Status)+" "+r.Reason, r.Headers, r.Body, r.Status != 204 && r.Status != 304)
}

// list is headers of names and values, one behind the other.
func list(texts ...string) []api.Header {
	var l []api.Header
	for x := range slices.Chunk(texts, 2) {
		l = append(l, api.Header{Name: x[0], Value: x[1]})
	}
	return l
}

// many is n headers, no two alike.
func many(n int) []api.Header {
	l := make([]api.Header, n)
	for i := range l {
		l[i] = api.Header{Name: "N" + strconv.Itoa(i), Value: strconv.Itoa(i * i)}
	}
	return l
}

// filled is headers whose last one's value is filled up till they have size bytes, put together with the empty line.
func filled(l []api.Header, size int) []api.Header {
	l = slices.Clone(l)
	l[len(l)-1].Value += strings.Repeat("v", size-len(linesOf(l))-2)
	return l
}

// some is n bytes of all kinds, line ends among them.
func some(n int) string {
	b := make([]byte, n)
	for i := range b {
		b[i] = "\r\n0;a\x00\xff"[i*i%7] + byte(i/40)
	}
	return string(b)
}

// byteText is a text of one byte.
func byteText(c int) string {
	return string([]byte{byte(c)})
}

// grown calls f on every text of at most size parts behind head.
func grown(head string, size int, parts []string, f func(s string)) {
	f(head)
	if size == 0 {
		return
	}
	for _, p := range parts {
		grown(head+p, size-1, parts, f)
	}
}

// holds tells of a Check and a Print whether they tell ok or ErrArg, and what is to be sent.
func holds(t *testing.T, name string, check api.Errno, sent []byte, print api.Errno, ok bool, want string) {
	t.Helper()
	errno := api.ErrArg
	if ok {
		errno = api.OK
	} else {
		want = ""
	}
	if check != errno {
		t.Errorf("Check of %.120q: error %d, want %d", name, check, errno)
	}
	if print != errno || string(sent) != want {
		t.Errorf("Print of %.120q = %.120q, error %d, want %.120q, error %d", name, sent, print, want, errno)
	}
}

func holdsRequest(t *testing.T, r api.Request, ok bool) {
	t.Helper()
	b, e := PrintRequest(r)
	holds(t, sentRequest(r), CheckRequest(r), b, e, ok, sentRequest(r))
}

func holdsResponse(t *testing.T, r api.Response, ok bool) {
	t.Helper()
	b, e := PrintResponse(r)
	holds(t, sentResponse(r), CheckResponse(r), b, e, ok, sentResponse(r))
}

// holdsBoth holds headers and a body, in a request and in responses, against whether these may be.
func holdsBoth(t *testing.T, l []api.Header, body string, ok bool) {
	t.Helper()
	holdsRequest(t, api.Request{Method: "POST", Target: "/", Headers: l, Body: []byte(body)}, ok)
	for _, status := range []int{200, 203, 205, 303, 305, 404, 599} {
		holdsResponse(t, api.Response{Status: status, Reason: "R", Headers: l, Body: []byte(body)}, ok)
	}
}

// told holds what was read against what is to be told, and against this file's patterns.
func told(t *testing.T, s string, got message, n int, e api.Errno, of func(string) (message, int, api.Errno), want message, size int, errno api.Errno) {
	t.Helper()
	if !got.same(want) || n != size || e != errno {
		t.Errorf("Parse of %.120q, of %d bytes = %.120q, %d, error %d, want %.120q, %d, error %d", s, len(s), got, n, e, want, size, errno)
	}
	if m, n, e := of(s); !m.same(want) || n != size || e != errno {
		t.Errorf("this file's patterns make %.120q, %d of %.120q, of %d bytes, error %d, want %.120q, %d, error %d", m, n, s, len(s), e, want, size, errno)
	}
}

func reads(t *testing.T, s string, want message, size int) {
	t.Helper()
	r, n, e := ParseRequest([]byte(s))
	told(t, s, ofRequest(r), n, e, requestOf, want, size, api.OK)
}

func readsNot(t *testing.T, s string, errno api.Errno) {
	t.Helper()
	r, n, e := ParseRequest([]byte(s))
	told(t, s, ofRequest(r), n, e, requestOf, message{}, 0, errno)
}

// readsAs holds ParseRequest against this file's patterns alone.
func readsAs(t *testing.T, s string) api.Errno {
	t.Helper()
	want, size, errno := requestOf(s)
	r, n, e := ParseRequest([]byte(s))
	told(t, s, ofRequest(r), n, e, requestOf, want, size, errno)
	return errno
}

func hears(t *testing.T, s string, want message, size int) {
	t.Helper()
	r, n, e := ParseResponse([]byte(s))
	told(t, s, ofResponse(r), n, e, responseOf, want, size, api.OK)
}

func hearsNot(t *testing.T, s string, errno api.Errno) {
	t.Helper()
	r, n, e := ParseResponse([]byte(s))
	told(t, s, ofResponse(r), n, e, responseOf, message{}, 0, errno)
}

// hearsAs holds ParseResponse against this file's patterns alone.
func hearsAs(t *testing.T, s string) api.Errno {
	t.Helper()
	want, size, errno := responseOf(s)
	r, n, e := ParseResponse([]byte(s))
	told(t, s, ofResponse(r), n, e, responseOf, want, size, errno)
	return errno
}

// Heads of a request and of a response, of which 200 is any status with a body.
const (
	requestHead  = "GET / HTTP/1.1\r\n"
	responseHead = "HTTP/1.1 200 OK\r\n"
)

// both reads what stands behind the first line, in a request and in a response.
func both(t *testing.T, s string, l []api.Header, body string, size int) {
	t.Helper()
	reads(t, requestHead+s, message{"GET", "/", l, body}, len(requestHead)+size)
	hears(t, responseHead+s, message{"200", "OK", l, body}, len(responseHead)+size)
}

func bothNot(t *testing.T, s string, errno api.Errno) {
	t.Helper()
	readsNot(t, requestHead+s, errno)
	hearsNot(t, responseHead+s, errno)
}

func bothAs(t *testing.T, s string) {
	t.Helper()
	readsAs(t, requestHead+s)
	hearsAs(t, responseHead+s)
}

func TestHt1PrintRequest(t *testing.T) {
	for want, r := range map[string]api.Request{
		"GET / HTTP/1.1\r\n\r\n":                                                  {Method: "GET", Target: "/"},
		"GET / HTTP/1.1\r\nHost: a\r\n\r\n":                                       {Method: "GET", Target: "/", Headers: list("Host", "a")},
		"POST /x?y HTTP/1.1\r\nContent-Length: 2\r\n\r\nhi":                       {Method: "POST", Target: "/x?y", Body: []byte("hi")},
		"post * HTTP/1.1\r\nB: 1\r\na: 2\r\nContent-Length: 1\r\n\r\n\x00":        {Method: "post", Target: "*", Headers: list("B", "1", "a", "2"), Body: []byte{0}},
		"! ~ HTTP/1.1\r\nA: \r\nA: b c\r\n\r\n":                                   {Method: "!", Target: "~", Headers: list("A", "", "A", "b c"), Body: []byte{}},
		"G http://a/ HTTP/1.1\r\nContent-Length: 10\r\n\r\n\r\n\r\n\r\n\r\n\xff.": {Method: "G", Target: "http://a/", Body: []byte("\r\n\r\n\r\n\r\n\xff.")},
	} {
		if got := sentRequest(r); got != want {
			t.Errorf("this file makes %q, want %q", got, want)
		}
		holdsRequest(t, r, true)
	}
}

func TestHt1PrintResponse(t *testing.T) {
	for want, r := range map[string]api.Response{
		"HTTP/1.1 200 OK\r\nContent-Length: 2\r\n\r\nhi":                         {Status: 200, Reason: "OK", Body: []byte("hi")},
		"HTTP/1.1 200 \r\nContent-Length: 0\r\n\r\n":                             {Status: 200},
		"HTTP/1.1 404 Not Found\r\nContent-Length: 0\r\n\r\n":                    {Status: 404, Reason: "Not Found", Body: []byte{}},
		"HTTP/1.1 204 No Content\r\n\r\n":                                        {Status: 204, Reason: "No Content"},
		"HTTP/1.1 304 \r\nB: 1\r\na: 2\r\n\r\n":                                  {Status: 304, Headers: list("B", "1", "a", "2"), Body: []byte{}},
		"HTTP/1.1 599  x \r\nB: 1\r\na: 2\r\nContent-Length: 1\r\n\r\n\n":        {Status: 599, Reason: " x ", Headers: list("B", "1", "a", "2"), Body: []byte("\n")},
		"HTTP/1.1 500 ~\r\nLocation: /\r\nContent-Length: 11\r\n\r\nhello world": {Status: 500, Reason: "~", Headers: list("Location", "/"), Body: []byte("hello world")},
	} {
		if got := sentResponse(r); got != want {
			t.Errorf("this file makes %q, want %q", got, want)
		}
		holdsResponse(t, r, true)
	}
}

func TestHt1EveryByte(t *testing.T) {
	for c := range 256 {
		x := byteText(c)
		for _, s := range []string{x, "a" + x, x + "a", "a" + x + "b", x + x, strings.Repeat("ab", 60) + x} {
			for _, body := range []string{"", "b"} {
				holdsRequest(t, api.Request{Method: s, Target: "/", Body: []byte(body)}, methods.MatchString(s))
				holdsRequest(t, api.Request{Method: "GET", Target: s, Body: []byte(body)}, targets.MatchString(s))
				holdsResponse(t, api.Response{Status: 200, Reason: s, Body: []byte(body)}, reasons.MatchString(s))
			}
			holdsResponse(t, api.Response{Status: 304, Reason: s}, reasons.MatchString(s))
			holdsBoth(t, list("A", s), "", header.Check(list("A", s)) == api.OK)
			holdsBoth(t, list(s, "b"), "x", header.Check(list(s, "b")) == api.OK)
		}
		holdsBoth(t, list("A", "b"), x, true)
	}
}

func TestHt1MethodAndTarget(t *testing.T) {
	for _, s := range []string{"", " ", "GET ", " GET", "G T", "G/T", "G:", "GET\r", "GET\n", "GÉT", "\x7f", strings.Repeat("G", 100) + "("} {
		holdsRequest(t, api.Request{Method: s, Target: "/"}, false)
		holdsRequest(t, api.Request{Method: s, Target: ""}, false)
	}
	// A method is of any length.
	for _, n := range []int{1, 2048, 2049, 4096, 5000, 1 << 17} {
		holdsRequest(t, api.Request{Method: strings.Repeat("G", n), Target: "/"}, true)
	}
	for _, n := range []int{1, 2, 128, 129, 2047, 2048} {
		holdsRequest(t, api.Request{Method: "GET", Target: strings.Repeat("~", n)}, true)
	}
	for _, n := range []int{0, 2049, 2050, 4096, 1 << 17} {
		holdsRequest(t, api.Request{Method: "GET", Target: strings.Repeat("~", n)}, false)
	}
	for _, s := range []string{"/ ", " /", "/a b", "/\t", "/\r\n", "/é", "/\x7f", "/\x00"} {
		holdsRequest(t, api.Request{Method: "GET", Target: s}, false)
	}
}

func TestHt1StatusAndReason(t *testing.T) {
	for status := -700; status < 2700; status++ {
		holdsResponse(t, api.Response{Status: status, Reason: "R"}, 200 <= status && status <= 599)
		holdsResponse(t, api.Response{Status: status, Reason: "R", Body: []byte("b")}, 200 <= status && status <= 599 && status != 204 && status != 304)
	}
	for _, status := range []int{math.MinInt, math.MaxInt, 1<<32 + 200, 1<<16 + 200, 256 + 600, -200} {
		holdsResponse(t, api.Response{Status: status}, false)
	}
	for _, n := range []int{0, 1, 127, 128} {
		holdsResponse(t, api.Response{Status: 200, Reason: strings.Repeat(" ", n)}, true)
		holdsResponse(t, api.Response{Status: 204, Reason: strings.Repeat("~", n)}, true)
	}
	for _, n := range []int{129, 130, 256, 2048, 1 << 17} {
		holdsResponse(t, api.Response{Status: 200, Reason: strings.Repeat(" ", n)}, false)
		holdsResponse(t, api.Response{Status: 204, Reason: strings.Repeat("~", n)}, false)
	}
	for _, s := range []string{"\t", "a\tb", "OK\r", "OK\n", "\r\nA: b", "é", "\x7f", "\x1f", "\x00"} {
		holdsResponse(t, api.Response{Status: 200, Reason: s}, false)
		holdsResponse(t, api.Response{Status: 304, Reason: s}, false)
	}
}

// Headers that say where a body ends are put there, not handed in.
func TestHt1OwnHeaders(t *testing.T) {
	for _, name := range []string{"Content-Length", "content-length", "CONTENT-LENGTH", "cOntent-lengtH", "Transfer-Encoding", "transfer-encoding", "TRANSFER-ENCODING", "tRansfer-encodinG"} {
		for _, value := range []string{"", "0", "1", "chunked", "x"} {
			for i := range 4 {
				l := slices.Insert(many(3), i, api.Header{Name: name, Value: value})
				holdsBoth(t, l, "", false)
				holdsBoth(t, l, "b", false)
				holdsResponse(t, api.Response{Status: 204, Headers: l}, false)
				holdsResponse(t, api.Response{Status: 304, Headers: l}, false)
			}
			holdsBoth(t, list(name, value), "", false)
		}
	}
	for _, name := range []string{"Content-Lengt", "ontent-Length", "Content-Length2", "X-Content-Length", "Content_Length", "Content", "Length", "Content-Type", "Transfer-Encodin", "ransfer-Encoding", "TransferEncoding", "Transfer_Encoding", "Content-Encoding", "TE", "Trailer"} {
		holdsBoth(t, list("A", "b", name, "chunked"), "", true)
		holdsBoth(t, list(name, "7", "A", "b"), "b", true)
	}
}

func TestHt1WrongHeaders(t *testing.T) {
	for _, h := range list("", "b", "A ", "b", "A:", "b", "A B", "b", "é", "b", "A", " b", "A", "b ", "A", "\t", "A", "b\r\nC: d", "A", "b\n", "A", "\x00", "A", "\x7f") {
		for i := range 4 {
			l := slices.Insert(many(3), i, h)
			holdsBoth(t, l, "", false)
			holdsBoth(t, l, "b", false)
			holdsResponse(t, api.Response{Status: 204, Headers: l}, false)
		}
	}
}

// The header for the body counts among them, where there is one.
func TestHt1ManyHeaders(t *testing.T) {
	for n := range 70 {
		l := many(n)
		holdsBoth(t, l, "b", n <= 63)
		holdsRequest(t, api.Request{Method: "GET", Target: "/", Headers: l}, n <= 64)
		holdsRequest(t, api.Request{Method: "GET", Target: "/", Headers: l, Body: []byte{}}, n <= 64)
		holdsResponse(t, api.Response{Status: 200, Headers: l}, n <= 63)
		holdsResponse(t, api.Response{Status: 204, Headers: l}, n <= 64)
		holdsResponse(t, api.Response{Status: 304, Headers: l}, n <= 64)
	}
}

func TestHt1LongHeaders(t *testing.T) {
	for _, l := range [][]api.Header{many(1), many(2), many(63)} {
		for size := 8150; size < 8200; size++ {
			l := filled(l, size)
			for _, n := range []int{0, 1, 9, 10, 99, 100, 999, 1000, 9999, 10000, 32768} {
				more := len("Content-Length: " + strconv.Itoa(n) + "\r\n")
				body := bytes.Repeat([]byte("b"), n)
				counted := n > 0
				holdsRequest(t, api.Request{Method: "GET", Target: "/", Headers: l, Body: body}, size+more <= 8192 || !counted && size <= 8192)
				holdsResponse(t, api.Response{Status: 200, Headers: l, Body: body}, size+more <= 8192)
			}
			holdsResponse(t, api.Response{Status: 204, Headers: l}, size <= 8192)
			holdsResponse(t, api.Response{Status: 304, Headers: l}, size <= 8192)
		}
	}
}

func TestHt1Body(t *testing.T) {
	for _, n := range []int{1, 2, 9, 10, 255, 256, 4096, 8192, 32767, 32768} {
		holdsBoth(t, list("A", "b"), some(n), true)
	}
	for _, n := range []int{32769, 32770, 65535, 65536, 65537, 1 << 20} {
		holdsBoth(t, list("A", "b"), some(n), false)
	}
	for _, n := range []int{1, 2, 32768, 32769} {
		holdsResponse(t, api.Response{Status: 204, Body: []byte(some(n))}, false)
		holdsResponse(t, api.Response{Status: 304, Body: []byte(some(n))}, false)
	}
}

func TestHt1Zero(t *testing.T) {
	holdsRequest(t, api.Request{}, false)
	holdsResponse(t, api.Response{}, false)
}

// Whatever follows a request, it is not looked at.
func TestHt2Request(t *testing.T) {
	for s, want := range map[string]message{
		// The document's.
		"GET / HTTP/1.1\r\nHost: a\r\n\r\n": {"GET", "/", list("Host", "a"), ""},

		// Line feeds alone.
		"GET / HTTP/1.1\n\n":               {"GET", "/", nil, ""},
		"GET / HTTP/1.1\n\r\n":             {"GET", "/", nil, ""},
		"GET / HTTP/1.1\r\n\n":             {"GET", "/", nil, ""},
		"GET / HTTP/1.1\nHost: a\nB:c\n\n": {"GET", "/", list("Host", "a", "B", "c"), ""},

		// Parts as they may be.
		"get /a/b?c=d&e#f HTTP/1.1\r\n\r\n":          {"get", "/a/b?c=d&e#f", nil, ""},
		"OPTIONS * HTTP/1.1\r\n\r\n":                 {"OPTIONS", "*", nil, ""},
		"CONNECT a:80 HTTP/1.1\r\n\r\n":              {"CONNECT", "a:80", nil, ""},
		"!#$%&'*+-.^_`|~ \"<>\\^`{|} HTTP/1.1\r\n\n": {"!#$%&'*+-.^_`|~", "\"<>\\^`{|}", nil, ""},
		"HTTP/1.1 HTTP/1.1 HTTP/1.1\n\n":             {}, // no method has a slash
		"x HTTP/1.1 HTTP/1.1\n\n":                    {"x", "HTTP/1.1", nil, ""},

		// Bodies.
		"POST /x HTTP/1.1\r\nHost: a\r\nContent-Length: 2\r\n\r\nhi":                                            {"POST", "/x", list("Host", "a", "Content-Length", "2"), "hi"},
		"GET / HTTP/1.1\ncontent-length:0\n\n":                                                                  {"GET", "/", list("content-length", "0"), ""},
		"GET / HTTP/1.1\nContent-Length: 3\nA: b\ncontent-length: 3\n\n\r\n\x00":                                {"GET", "/", list("Content-Length", "3", "A", "b", "content-length", "3"), "\r\n\x00"},
		"P / HTTP/1.1\nTransfer-Encoding: chunked\n\n3\r\nabc\r\n0\r\n\r\n":                                     {"P", "/", list("Transfer-Encoding", "chunked"), "abc"},
		"P / HTTP/1.1\nA: b\ntransfer-encoding: CHUNKED\n\n1;x\r\n\n\r\n0\r\nT: v\r\nContent-Length: 9\r\n\r\n": {"P", "/", list("A", "b", "transfer-encoding", "CHUNKED"), "\n"},
	} {
		if want.one == "" {
			readsNot(t, s, api.ErrText)
			continue
		}
		for _, rest := range []string{"", "x", "\r", "\n", "\r\n", s, "\x00\xff", some(300), strings.Repeat("z", 40000)} {
			reads(t, s+rest, want, len(s))
		}
	}
}

func TestHt2Response(t *testing.T) {
	for s, want := range map[string]message{
		"HTTP/1.1 404\r\n\r\nrest":                                                    {"404", "", nil, "rest"},
		"HTTP/1.1 404 \r\n\r\nrest":                                                   {"404", "", nil, "rest"},
		"HTTP/1.1 200 OK\n\n":                                                         {"200", "OK", nil, ""},
		"HTTP/1.1 200 OK\r\n\n\n":                                                     {"200", "OK", nil, "\n"},
		"HTTP/1.1 200 OK\nA: b\n\n\x00\r\n\r\n\xff":                                   {"200", "OK", list("A", "b"), "\x00\r\n\r\n\xff"},
		"HTTP/1.1 200  O  K \n\nb":                                                    {"200", " O  K ", nil, "b"},
		"HTTP/1.1 200  \n\nb":                                                         {"200", " ", nil, "b"},
		"HTTP/1.1 500 200\n\nHTTP/1.1 200 OK\n\n":                                     {"500", "200", nil, "HTTP/1.1 200 OK\n\n"},
		"HTTP/1.1 100 Continue\r\n\r\nb":                                              {"100", "Continue", nil, "b"},
		"HTTP/1.1 101\r\nContent-Length: 1\r\n\r\nb":                                  {"101", "", list("Content-Length", "1"), "b"},
		"HTTP/1.1 599 !~\r\nContent-Length: 02\r\n\r\nbc":                             {"599", "!~", list("Content-Length", "02"), "bc"},
		"HTTP/1.1 302 Found\r\nLocation: /\r\nContent-Length: 0\r\n\r\n":              {"302", "Found", list("Location", "/", "Content-Length", "0"), ""},
		"HTTP/1.1 200 OK\nTransfer-Encoding: Chunked\n\n2\r\nab\r\n1\r\nc\r\n0\r\n\n": {"200", "OK", list("Transfer-Encoding", "Chunked"), "abc"},
	} {
		hears(t, s, want, len(s))
		for _, rest := range []string{"x", "\r", "\n", s, some(300)} {
			// Without a length and chunks it is the body's, too.
			if len(header.Without(want.headers, []string{"content-length", "transfer-encoding"})) == len(want.headers) {
				m := want
				m.body += rest
				hears(t, s+rest, m, len(s+rest))
			} else {
				hears(t, s+rest, want, len(s))
			}
		}
	}
}

func TestHt2WrongRequestLine(t *testing.T) {
	for _, wrong := range []string{
		"", " ", "GET", "GET ", "GET /", "GET / ", "GET  HTTP/1.1", "GET HTTP/1.1", " / HTTP/1.1", "/ HTTP/1.1", "HTTP/1.1", "GET/HTTP/1.1",

		// Not a single blank between, or one at the ends.
		"GET  / HTTP/1.1", "GET /  HTTP/1.1", " GET / HTTP/1.1", "GET / HTTP/1.1 ", "GET\t/ HTTP/1.1", "GET /\tHTTP/1.1", "GET / HTTP/1.1\t", "\tGET / HTTP/1.1", "GET / a HTTP/1.1", "GET /a b HTTP/1.1", "GET / HTTP/1.1 x", "GET\r/ HTTP/1.1", "GET\u00a0/ HTTP/1.1",

		// Another version.
		"GET / HTTP/1.0", "GET / HTTP/1.2", "GET / HTTP/2", "GET / HTTP/11.1", "GET / HTTP/1.10", "GET / HTTP/01.1", "GET / http/1.1", "GET / Http/1.1", "GET / HTTP/1,1", "GET / HTTP/1x1", "GET / HTTP1.1", "GET / HTTP/1.", "GET / TTP/1.1", "GET / XHTTP/1.1", "GET / HTTP /1.1", "GET / HTTP/1.1\x00", "GET / \xefHTTP/1.1",

		// No method, no target.
		"GE:T / HTTP/1.1", "(GET) / HTTP/1.1", "G/T / HTTP/1.1", "GÉT / HTTP/1.1", "\x00 / HTTP/1.1", "\x7f / HTTP/1.1", "\xff / HTTP/1.1", "GET /é HTTP/1.1", "GET /\x7f HTTP/1.1", "GET /\x00 HTTP/1.1", "GET \xff HTTP/1.1", "GET /\x1f HTTP/1.1", "GET " + strings.Repeat("/", 2049) + " HTTP/1.1", "GET " + strings.Repeat("/", 4000) + " HTTP/1.1",

		// A carriage return more.
		"\r", "GET / HTTP/1.1\r", "GET / HTTP/1.1\r\r", "\rGET / HTTP/1.1", "GET /\r HTTP/1.1", "GET / HTTP/1.1\r ",

		// A response's.
		"HTTP/1.1 200 OK", "HTTP/1.1 200", "HTTP/1.1 200 HTTP/1.1",
	} {
		for _, end := range []string{"\r\n", "\n"} {
			if end == "\n" && strings.HasSuffix(wrong, "\r") {
				continue // that is the line's own end
			}
			for _, behind := range []string{"", "\r\n", "\n", "Host: a\r\n\r\n", "A : b\n\n", "GET / HTTP/1.1\r\n\r\n", strings.Repeat("y", 9000), "Content-Length: x\n\n"} {
				readsNot(t, wrong+end+behind, api.ErrText)
			}
		}
	}
}

func TestHt2WrongResponseLine(t *testing.T) {
	for _, wrong := range []string{
		"", " ", "HTTP/1.1", "HTTP/1.1 ", "HTTP/1.1  ", "200 OK", "200", " 200 OK", "OK", "HTTP/1.1 OK", "HTTP/1.1200 OK", "HTTP/1.1 OK 200",

		// Not a single blank ahead of the status, or one at the beginning.
		"HTTP/1.1  200 OK", " HTTP/1.1 200 OK", "HTTP/1.1\t200 OK", "HTTP/1.1 200\tOK", "HTTP/1.1 \t200 OK", "HTTP/1.1 200\t", "HTTP/1.1 200-OK", "HTTP/1.1 200OK", "HTTP/1.1 200\u00a0OK",

		// Another version.
		"HTTP/1.0 200 OK", "HTTP/1.2 200 OK", "HTTP/2 200 OK", "http/1.1 200 OK", "HTTP/1.10 200 OK", "HTTP/1x1 200 OK", "TTP/1.1 200 OK", "XHTTP/1.1 200 OK", "HTTP/1.1\x00 200 OK", "HTTP/1. 200 OK", "ICY 200 OK",

		// No status.
		"HTTP/1.1 0 OK", "HTTP/1.1 20 OK", "HTTP/1.1 2000 OK", "HTTP/1.1 0200 OK", "HTTP/1.1 +20 OK", "HTTP/1.1 -200 OK", "HTTP/1.1 +200 OK", "HTTP/1.1 2_0 OK", "HTTP/1.1 2x0 OK", "HTTP/1.1 0x2 OK", "HTTP/1.1 20. OK", "HTTP/1.1 2e2 OK", "HTTP/1.1 ２００ OK", "HTTP/1.1 ٣٠٠ OK", "HTTP/1.1 099 OK", "HTTP/1.1 600 OK", "HTTP/1.1 999 OK", "HTTP/1.1 000 OK", "HTTP/1.1 4294967496 OK", "HTTP/1.1 18446744073709551816 OK", "HTTP/1.1 2 00", "HTTP/1.1 20", "HTTP/1.1 2000", "HTTP/1.1 600",

		// No reason.
		"HTTP/1.1 200 O\tK", "HTTP/1.1 200 \t", "HTTP/1.1 200 é", "HTTP/1.1 200 \x7f", "HTTP/1.1 200 \x00", "HTTP/1.1 200 \x1f", "HTTP/1.1 200 \xff", "HTTP/1.1 200 " + strings.Repeat("r", 129), "HTTP/1.1 200 " + strings.Repeat(" ", 129), "HTTP/1.1 200 " + strings.Repeat("r", 4000),

		// A carriage return more.
		"\r", "HTTP/1.1 200\r", "HTTP/1.1 200 OK\r", "HTTP/1.1 200 OK\r\r", "HTTP/1.1 200 \r", "\rHTTP/1.1 200 OK", "HTTP/1.1 200\r OK", "HTTP/1.1 200 O\rK", "HTTP/1.1 \r200 OK",

		// Of 204 and 304 just so.
		"HTTP/1.0 204 No Content", "HTTP/1.1 304 \t", "HTTP/1.1  204",

		// A request's.
		"GET / HTTP/1.1", "GET 200 HTTP/1.1",
	} {
		for _, end := range []string{"\r\n", "\n"} {
			if end == "\n" && strings.HasSuffix(wrong, "\r") {
				continue // that is the line's own end
			}
			for _, behind := range []string{"", "\r\n", "\n", "Host: a\r\n\r\n", "A : b\n\n", "HTTP/1.1 200 OK\r\n\r\n", strings.Repeat("y", 9000), "Content-Length: x\n\n"} {
				hearsNot(t, wrong+end+behind, api.ErrText)
			}
		}
	}
}

func TestHt2EveryStatus(t *testing.T) {
	for n := range 11000 {
		for _, s := range []string{strconv.Itoa(n), strings.Repeat("0", max(0, 3-len(strconv.Itoa(n)))) + strconv.Itoa(n)} {
			for _, line := range []string{"HTTP/1.1 " + s + "\n", "HTTP/1.1 " + s + " R\r\n"} {
				e := hearsAs(t, line+"\nb")
				if (e == api.OK) != (100 <= n && n <= 599) {
					t.Errorf("this file's patterns tell error %d of %q", e, line)
				}
			}
		}
	}
}

func TestHt2PartsLong(t *testing.T) {
	for _, n := range []int{1, 2, 2047, 2048} {
		target := strings.Repeat("t", n)
		s := "GET " + target + " HTTP/1.1\r\n\r\n"
		reads(t, s, message{"GET", target, nil, ""}, len(s))
	}
	for _, n := range []int{0, 1, 127, 128} {
		reason := strings.Repeat("r", n)
		s := "HTTP/1.1 200 " + reason + "\r\n\r\n"
		hears(t, s, message{"200", reason, nil, ""}, len(s))
	}
	// A method is as long as the line lets it be.
	for _, n := range []int{129, 2049, 4083, 4084} {
		method := strings.Repeat("m", n)
		s := method + " / HTTP/1.1\n\n"
		if fed := strings.Index(s, "\n") + 1; n == 4084 && fed != 4096 {
			t.Fatalf("a line of %d bytes", fed)
		}
		reads(t, s, message{method, "/", nil, ""}, len(s))
	}
	readsNot(t, strings.Repeat("m", 4085)+" / HTTP/1.1\n\n", api.ErrLong)
	readsNot(t, strings.Repeat("m", 4084)+" / HTTP/1.1\r\n\n", api.ErrLong)
	reads(t, strings.Repeat("m", 4083)+" / HTTP/1.1\r\n\n", message{strings.Repeat("m", 4083), "/", nil, ""}, 4097)
}

// The first line's length is looked at ahead of all else, then whether its line feed is there.
func TestHt2LineLong(t *testing.T) {
	for _, piece := range []string{"a", " ", "\r", "\x00", "\xff", "GET / HTTP/1.1", "HTTP/1.1 200 "} {
		all := strings.Repeat(piece, 10000)
		for _, n := range []int{0, 1, 2, 15, 4094, 4095} {
			for _, behind := range []string{"", "\n", "\r\n", "A: b\n\n", strings.Repeat("y", 5000)} {
				readsNot(t, all[:n]+"\n"+behind, api.ErrText)
				hearsAs(t, all[:n]+"\n"+behind)
			}
			readsNot(t, all[:n], api.ErrMore)
			hearsNot(t, all[:n], api.ErrMore)
		}
		readsNot(t, all[:4096], api.ErrMore)
		hearsNot(t, all[:4096], api.ErrMore)
		for _, n := range []int{4096, 4097, 4098, 5000, 8192, 8193, 10000} {
			for _, behind := range []string{"\n", "\n\n", "\nA: b\n\n", "\r\n\r\n"} {
				readsNot(t, all[:n]+behind, api.ErrLong)
				hearsNot(t, all[:n]+behind, api.ErrLong)
			}
			if n > 4096 {
				readsNot(t, all[:n], api.ErrLong)
				hearsNot(t, all[:n], api.ErrLong)
			}
		}
	}
	readsNot(t, "", api.ErrMore)
	hearsNot(t, "", api.ErrMore)
}

// Messages whose headers aren't all there, and what is wrong in them ahead of their line feed.
func TestHt2More(t *testing.T) {
	for _, s := range []string{"", "\r", "A", "A: b", "A: b\r", "A: b\r\n", "A: b\r\n\r", "A : b", " ", "\x00", "Content-Length: x\r\n", "Content-Length: 40000\n", "Transfer-Encoding: x\n", "Transfer-Encoding: chunked\r\n", strings.Repeat(":", 8192)} {
		bothNot(t, s, api.ErrMore)
		hearsNot(t, "HTTP/1.1 204\n"+s, api.ErrMore)
	}
	for _, s := range []string{"G", "GET", "GET / HTTP/1.1", "GET / HTTP/1.1\r", "GET / HTTP/1.0", " ", "\r", "\x00", "HTTP/1.1 200 OK", "HTTP/1.1 2000", "HTTP/1.1 200 OK\r"} {
		readsNot(t, s, api.ErrMore)
		hearsNot(t, s, api.ErrMore)
	}
}

// What layer 9 refuses, in its order, ahead of what the headers say.
func TestHt2Headers(t *testing.T) {
	for _, ahead := range []string{"", "A: b\r\n", "Content-Length: x\n", "Content-Length: 40000\n", "Transfer-Encoding: chunked\nContent-Length: 1\n"} {
		for _, wrong := range []string{"A : b", " A: b", "A", ":", "A: \x00", "\t", "A: b\rc", "HTTP/1.1 200 OK", "\r\r"} {
			for _, behind := range []string{"", "\r\n", "\n\n", strings.Repeat("y", 9000)} {
				bothNot(t, ahead+wrong+"\n"+behind, api.ErrText)
				hearsNot(t, "HTTP/1.1 304 R\n"+ahead+wrong+"\n"+behind, api.ErrText)
			}
		}
		bothNot(t, ahead+linesOf(many(65))+"\r\n", api.ErrLong)
		bothNot(t, ahead+strings.Repeat("x", 9000), api.ErrLong)
		bothNot(t, ahead+linesOf(filled(many(2), 8300))+"\r\n", api.ErrLong)
		hearsNot(t, "HTTP/1.1 204\n"+ahead+linesOf(many(65))+"\r\n", api.ErrLong)
	}
	for _, n := range []int{0, 1, 63, 64} {
		s := linesOf(many(n)) + "\r\n"
		both(t, s, many(n), "", len(s))
	}
	for _, size := range []int{8000, 8191, 8192} {
		l := filled(many(3), size)
		both(t, linesOf(l)+"\r\n", l, "", size)
	}
	bothNot(t, linesOf(filled(many(3), 8193))+"\r\n", api.ErrLong)
	// The first line doesn't count among the headers' bytes.
	s := "GET " + strings.Repeat("t", 2048) + " HTTP/1.1\r\n"
	l := filled(many(64), 8192)
	reads(t, s+linesOf(l)+"\r\n", message{"GET", strings.Repeat("t", 2048), l, ""}, len(s)+8192)
}

func TestHt2Length(t *testing.T) {
	for said, size := range map[string]int{"0": 0, "1": 1, "2": 2, "00": 0, "01": 1, "09": 9, "10": 10, "00000000": 0, "00000003": 3, "00032768": 32768, "32767": 32767, "32768": 32768, "4096": 4096} {
		full := some(size)
		for _, lines := range [][]api.Header{
			list("Content-Length", said), list("A", "b", "content-length", said), list("CONTENT-LENGTH", said, "A", "b"),
			list("Content-Length", said, "content-length", said), list("Content-Length", said, "A", "b", "Content-Length", said, "cONTENT-lENGTH", said),
		} {
			s := linesOf(lines) + "\r\n" + full
			for _, rest := range []string{"", "x", "\r\n", some(100), some(40000)} {
				both(t, s+rest, lines, full, len(s))
			}
			for _, fewer := range []int{1, 2, size/2 + 1, size} {
				if 0 < fewer && fewer <= size {
					bothNot(t, s[:len(s)-fewer], api.ErrMore)
				}
			}
		}
	}
}

func TestHt2WrongLength(t *testing.T) {
	for _, said := range []string{"", "x", "+1", "-1", "-0", "+0", "1\u00a0", "1 2", "1,1", "1, 1", "1;", "1.", "1.0", ".1", "0x1", "1x", "x1", "1_0", "_1", "1_", "a", "1e1", "１", "٣", "é", "\xff", "123456789", "000000000", "000000001", "100000000", "4294967297", "18446744073709551616", "18446744073709551617", strings.Repeat("0", 100), "\"1\"", "chunked"} {
		for _, lines := range [][]api.Header{
			list("Content-Length", said), list("content-length", said, "A", "b"), list("Content-Length", said, "Content-Length", said),
			list("Content-Length", "1", "Content-Length", said), list("Content-Length", said, "Content-Length", "1"), list("Content-Length", "1", "Content-Length", "1", "Content-Length", said),
		} {
			for _, rest := range []string{"", "a", "ab", some(40000)} {
				bothNot(t, linesOf(lines)+"\r\n"+rest, api.ErrText)
			}
		}
	}
	for _, two := range [][2]string{{"1", "2"}, {"2", "1"}, {"1", "01"}, {"01", "1"}, {"0", "00"}, {"0", "1"}, {"1", "40000"}, {"40000", "1"}, {"40000", "40001"}, {"10", "1"}} {
		for _, lines := range [][]api.Header{
			list("Content-Length", two[0], "Content-Length", two[1]), list("Content-Length", two[0], "A", "b", "content-length", two[1]),
			list("Content-Length", two[0], "Content-Length", two[0], "Content-Length", two[1]), list("Content-Length", two[0], "Content-Length", two[1], "Content-Length", two[0]),
		} {
			for _, rest := range []string{"", "ab", some(40000)} {
				bothNot(t, linesOf(lines)+"\r\n"+rest, api.ErrText)
			}
		}
	}
	// Blanks and tabs around it are none of its own.
	s := "Content-Length: \t 1 \t\r\nContent-Length:1\n\nb"
	both(t, s, list("Content-Length", "1", "Content-Length", "1"), "b", len(s))
}

func TestHt2LengthEveryByte(t *testing.T) {
	for c := range 256 {
		for _, form := range []string{"@", "1@", "@1", "1@2", "1234567@", "12345678@", "@2345678"} {
			said := strings.ReplaceAll(form, "@", byteText(c))
			bothAs(t, "Content-Length: "+said+"\r\n\r\n"+some(130))
			bothAs(t, "Content-Length: 1\r\nContent-Length: "+said+"\r\n\r\n"+some(130))
		}
	}
}

func TestHt2LongLength(t *testing.T) {
	for _, said := range []string{"32769", "032769", "00032769", "32770", "40000", "65535", "65536", "65537", "98304", "99999999", "10000000"} {
		for _, lines := range [][]api.Header{list("Content-Length", said), list("Content-Length", said, "A", "b", "content-length", said)} {
			for _, rest := range []string{"", "x", some(32768), some(32769), some(32770), some(100000)} {
				bothNot(t, linesOf(lines)+"\r\n"+rest, api.ErrLong)
			}
		}
	}
	for _, rest := range []string{"", "x", some(32767)} {
		bothNot(t, "Content-Length: 32768\r\n\r\n"+rest, api.ErrMore)
	}
}

// Without a length and chunks a request has no body, and a response's is all that follows.
func TestHt2Follows(t *testing.T) {
	for _, l := range [][]api.Header{nil, list("A", "b"), list("Content-Lengt", "1", "X-Content-Length", "2", "TE", "chunked", "Content_Length", "3", "Transfer_Encoding", "x", "Content-Encoding", "gzip", "TransferEncoding", "chunked")} {
		s := linesOf(l) + "\r\n"
		for _, n := range []int{0, 1, 2, 100, 4096, 32767, 32768} {
			reads(t, requestHead+s+some(n), message{"GET", "/", l, ""}, len(requestHead+s))
			hears(t, responseHead+s+some(n), message{"200", "OK", l, some(n)}, len(responseHead+s)+n)
		}
		for _, n := range []int{32769, 32770, 65536, 100000} {
			reads(t, requestHead+s+some(n), message{"GET", "/", l, ""}, len(requestHead+s))
			hearsNot(t, responseHead+s+some(n), api.ErrLong)
		}
	}
	for status := 100; status < 600; status++ {
		if status == 204 || status == 304 {
			continue
		}
		line := "HTTP/1.1 " + strconv.Itoa(status) + " R\n"
		hears(t, line+"\nbody", message{strconv.Itoa(status), "R", nil, "body"}, len(line)+5)
		hears(t, line+"Content-Length: 1\n\nbody", message{strconv.Itoa(status), "R", list("Content-Length", "1"), "b"}, len(line)+20)
	}
}

// Of 204 and 304 there is no body, whatever the headers say.
func TestHt2Bodiless(t *testing.T) {
	for _, l := range [][]api.Header{
		nil, list("A", "b"), list("Content-Length", "0"), list("Content-Length", "2"), list("Content-Length", "40000"), list("Content-Length", "x"), list("Content-Length", "1", "Content-Length", "2"), list("Content-Length", ""),
		list("Transfer-Encoding", "chunked"), list("Transfer-Encoding", "gzip"), list("Transfer-Encoding", "chunked", "Content-Length", "2"), list("Transfer-Encoding", "chunked", "Transfer-Encoding", "chunked"),
	} {
		for _, status := range []string{"204", "304"} {
			for _, first := range []string{"HTTP/1.1 " + status + "\r\n", "HTTP/1.1 " + status + " R\n"} {
				s := first + linesOf(l) + "\r\n"
				reason := strings.TrimSpace(first[12:])
				for _, rest := range []string{"", "x", "hi", "0\r\n\r\n", "z\r\n", some(100), some(40000)} {
					hears(t, s+rest, message{status, reason, l, ""}, len(s))
				}
			}
		}
	}
	// A request that looks so has one, as others.
	s := "204 304 HTTP/1.1\nContent-Length: 2\n\nhi"
	reads(t, s+"x", message{"204", "304", list("Content-Length", "2"), "hi"}, len(s))
}

func TestHt2Chunks(t *testing.T) {
	for _, coding := range []string{"chunked", "Chunked", "CHUNKED", "cHuNkEd"} {
		for _, l := range [][]api.Header{list("Transfer-Encoding", coding), list("A", "b", "transfer-encoding", coding), list("TRANSFER-ENCODING", coding, "Trailer", "T")} {
			lines := linesOf(l) + "\r\n"
			for s, body := range map[string]string{
				"0\r\n\r\n": "", "3\r\nabc\r\n0\r\n\r\n": "abc", "3;x\r\nabc\r\n0\r\nT: v\r\n\r\n": "abc", "1\r\na\r\n2\r\nbc\r\n0\r\nTransfer-Encoding: gzip\r\nContent-Length: 1\r\nContent-Length: 2\r\n\n": "abc", "8000\r\n" + some(32768) + "\r\n0\r\n\r\n": some(32768),
			} {
				for _, rest := range []string{"", "x", "\r\n", "0\r\n\r\n", some(40000)} {
					both(t, lines+s+rest, l, body, len(lines+s))
				}
				bothNot(t, lines+s[:len(s)-1], api.ErrMore)
			}
			for s, errno := range map[string]api.Errno{
				"": api.ErrMore, "3": api.ErrMore, "3\r\nabc": api.ErrMore, "3\r\nabc\r\n": api.ErrMore, "0\r\n": api.ErrMore, "0\r\nA: b\r\n": api.ErrMore,
				"+3\r\nabc\r\n0\r\n\r\n": api.ErrText, "3\nabc\n0\n\n": api.ErrText, "3\r\nabcd\r\n0\r\n\r\n": api.ErrText, "\r\n": api.ErrText, "hello\r\n": api.ErrText, "0\r\nA : b\r\n\r\n": api.ErrText, strings.Repeat("x", 258): api.ErrText,
				"8001\r\n": api.ErrLong, "8000\r\n" + some(32768) + "\r\n1\r\n": api.ErrLong, "ffffffff\r\n": api.ErrLong, "0\r\n" + linesOf(many(65)): api.ErrLong, "0\r\n" + strings.Repeat("x", 8193): api.ErrLong,
			} {
				bothNot(t, lines+s, errno)
			}
		}
	}
}

func TestHt2WrongCoding(t *testing.T) {
	for _, l := range [][]api.Header{
		// Another one, or more than one.
		list("Transfer-Encoding", ""), list("Transfer-Encoding", "gzip"), list("Transfer-Encoding", "identity"), list("Transfer-Encoding", "chunke"), list("Transfer-Encoding", "hunked"), list("Transfer-Encoding", "xchunked"), list("Transfer-Encoding", "chunkedx"), list("Transfer-Encoding", "chunked;"), list("Transfer-Encoding", "chunked,"), list("Transfer-Encoding", ",chunked"), list("Transfer-Encoding", "chunked, chunked"), list("Transfer-Encoding", "gzip, chunked"), list("Transfer-Encoding", "\"chunked\""), list("Transfer-Encoding", "chunked;x=y"), list("Transfer-Encoding", "chun\u212aed"), list("Transfer-Encoding", "chunked\xff"), list("Transfer-Encoding", "c hunked"), list("Transfer-Encoding", "3"),
		list("Transfer-Encoding", "chunked", "Transfer-Encoding", "chunked"), list("Transfer-Encoding", "chunked", "A", "b", "transfer-encoding", "chunked"), list("Transfer-Encoding", "gzip", "Transfer-Encoding", "chunked"), list("Transfer-Encoding", "chunked", "Transfer-Encoding", "gzip"), list("Transfer-Encoding", "chunked", "Transfer-Encoding", ""), list("Transfer-Encoding", "", "Transfer-Encoding", "chunked"),

		// A length beside it.
		list("Transfer-Encoding", "chunked", "Content-Length", "3"), list("Content-Length", "3", "Transfer-Encoding", "chunked"), list("content-length", "0", "A", "b", "transfer-encoding", "chunked"), list("Transfer-Encoding", "chunked", "Content-Length", ""), list("Transfer-Encoding", "chunked", "Content-Length", "x"), list("Transfer-Encoding", "chunked", "Content-Length", "40000"), list("Transfer-Encoding", "gzip", "Content-Length", "3"), list("Transfer-Encoding", "identity", "Content-Length", "0"), list("Transfer-Encoding", "", "Content-Length", "3"), list("Content-Length", "3", "Transfer-Encoding", "gzip"), list("Transfer-Encoding", "chunked", "Transfer-Encoding", "chunked", "Content-Length", "3"),
	} {
		for _, rest := range []string{"", "x", "abc", "3\r\nabc\r\n0\r\n\r\n", "+3\r\n", "8001\r\n", some(40000)} {
			bothNot(t, linesOf(l)+"\r\n"+rest, api.ErrText)
		}
	}
	s := "Transfer-Encoding:\t chunked \t\n\n0\r\n\n"
	both(t, s, list("Transfer-Encoding", "chunked"), "", len(s))
}

func TestHt2EveryByte(t *testing.T) {
	for c := range 256 {
		x := byteText(c)
		for _, form := range []string{"@GET / HTTP/1.1\r\n\r\n", "GET@/ HTTP/1.1\r\n\r\n", "G@T / HTTP/1.1\r\n\r\n", "@ / HTTP/1.1\n\n", "GET @ HTTP/1.1\r\n\r\n", "GET /@ HTTP/1.1\r\n\r\n", "GET /@HTTP/1.1\r\n\r\n", "GET / HTTP/1.@\r\n\r\n", "GET / HTTP@1.1\r\n\r\n", "GET / HTTP/1@1\n\n", "GET / HTTP/1.1@\r\n\r\n", "GET / HTTP/1.1\r@\r\n", "GET / HTTP/1.1@\n\n", "GET / HTTP/1.1\r\n@\r\n", "GET / HTTP/1.1\r\n\r@", "GET / HTTP/1.1\n\n@", "P / HTTP/1.1\nContent-Length: 1\n\n@", "P / HTTP/1.1\nContent-Length@ 1\n\nb", "P / HTTP/1.1\nContent@Length: 1\n\nb", "P / HTTP/1.1\nTransfer-Encoding: chunke@\n\n0\r\n\r\n", "P / HTTP/1.1\nTransfer-Encoding: chun@ed\n\n0\r\n\r\n", "P / HTTP/1.1\nTransfer-Encodin@: chunked\n\n0\r\n\r\n", "@", "@\n", "@@@\n@\n\n"} {
			readsAs(t, strings.ReplaceAll(form, "@", x))
		}
		for _, form := range []string{"@HTTP/1.1 200 OK\r\n\r\n", "HTTP/1.1@200 OK\r\n\r\n", "HTTP/1.@ 200 OK\r\n\r\n", "HTTP/1@1 200 OK\n\n", "HTTP/1.1 @00 OK\r\n\r\n", "HTTP/1.1 2@0 OK\r\n\r\n", "HTTP/1.1 20@ OK\r\n\r\n", "HTTP/1.1 20@\r\n\r\n", "HTTP/1.1 200@OK\r\n\r\n", "HTTP/1.1 200@\r\n\r\n", "HTTP/1.1 200@\n\n", "HTTP/1.1 200 @\r\n\r\n", "HTTP/1.1 200 O@K\n\n", "HTTP/1.1 200 OK@\r\n\r\n", "HTTP/1.1 200 OK@\n\n", "HTTP/1.1 200 OK\r@\r\n", "HTTP/1.1 200 OK\r\n@\r\n", "HTTP/1.1 200 OK\n\n@", "HTTP/1.1 20@ R\nContent-Length: 1\n\nbc", "HTTP/1.1 30@\n\nb", "HTTP/1.1 200\nContent-Length: 1\n\n@", "@", "@\n", "@@@\n@\n\n"} {
			hearsAs(t, strings.ReplaceAll(form, "@", x))
		}
	}
}

func TestHt2Short(t *testing.T) {
	sent, heard := map[api.Errno]int{}, map[api.Errno]int{}
	request := func(s string) { sent[readsAs(t, s)]++ }
	response := func(s string) { heard[hearsAs(t, s)]++ }
	grown("", 6, []string{"G", " ", "/", "HTTP/1.1", "\r", "\n"}, request)
	grown("G / HTTP/1.1", 5, []string{"\n", "\r\n", "\r", "A: b", "Content-Length: 1", "Transfer-Encoding: chunked", "0"}, request)
	grown("G / HTTP/1.1\n", 5, []string{"Content-Length: 1\n", "content-length: 40000\n", "transfer-encoding: Chunked\r\n", "\n", "0\r\n", "b"}, request)
	grown("", 6, []string{"HTTP/1.1", " ", "200", "204", "K", "\r", "\n"}, response)
	grown("HTTP/1.1 200", 5, []string{"\n", "\r\n", "\r", " ", "Content-Length: 1", "Transfer-Encoding: chunked", "0"}, response)
	for _, status := range []string{"200", "204", "304", "301", "100"} {
		grown("HTTP/1.1 "+status+" R\n", 5, []string{"Content-Length: 1\n", "content-length: 40000\n", "transfer-encoding: Chunked\r\n", "\n", "0\r\n", "b"}, response)
	}
	for _, e := range []api.Errno{api.OK, api.ErrLong, api.ErrText, api.ErrMore} {
		if sent[e] < 100 || heard[e] < 100 {
			t.Errorf("only %d requests and %d responses of error %d", sent[e], heard[e], e)
		}
	}
}

// Messages with one sign put in, taken out and changed for another, and messages cut off.
func TestHt2Changed(t *testing.T) {
	for _, s := range []string{
		"POST /x HTTP/1.1\r\nHost: a\r\nContent-Length: 12\r\ncontent-length:12\n\r\nhello world\nx",
		"P * HTTP/1.1\nTransfer-Encoding: chunked\n\n3;x\r\nabc\r\n0\r\nT: v\r\n\r\nz",
		"HTTP/1.1 200 O K\r\nContent-Length: 3\r\nA: b\n\r\nabcd",
		"HTTP/1.1 304\nContent-Length: 03\n\nabc",
		"HTTP/1.1 599 \r\ntransfer-encoding:CHUNKED\r\n\r\n2\r\n\r\n\r\n00\r\n\nz",
		"HTTP/1.1 404 Not Found\n\nrest",
	} {
		for i := range len(s) {
			for _, x := range []string{s[:i], s[i:], s[:i] + s[i+1:]} {
				readsAs(t, x)
				hearsAs(t, x)
			}
			for c := range 256 {
				for _, x := range []string{s[:i] + byteText(c) + s[i:], s[:i] + byteText(c) + s[i+1:]} {
					readsAs(t, x)
					hearsAs(t, x)
				}
			}
		}
	}
}

func TestHt2Mixed(t *testing.T) {
	firsts := []string{"GET / HTTP/1.1\r\n", "P /x HTTP/1.1\n", "HTTP/1.1 200 OK\r\n", "HTTP/1.1 404\n", "HTTP/1.1 204\r\n", "HTTP/1.1 304 R\n", "HTTP/1.1 150 R\n", "GET  / HTTP/1.1\n", "", strings.Repeat("z", 4090) + "\r\n", "GET " + strings.Repeat("t", 2040) + " HTTP/1.1\n"}
	lines := []string{"A: b\r\n", "Content-Length: 3\n", "content-length: 3\r\n", "Content-Length: 2\n", "Content-Length: 32768\n", "Content-Length: 32769\r\n", "Transfer-Encoding: chunked\r\n", "transfer-encoding: CHUNKED\n", "Transfer-Encoding: gzip\n", linesOf(many(30)), "A : b\n", "L:" + strings.Repeat("v", 4000) + "\n", "L:" + strings.Repeat("v", 4100) + "\n"}
	bodies := []string{"", "a", "abc", "abcd", "3\r\nabc\r\n0\r\n\r\n", "0\r\n\r\n", "3\r\nabc\r\n", "8001\r\n", some(32767), some(32768), some(32769), "x\r\n"}
	rule := rand.New(rand.NewSource(11))
	sent, heard := map[api.Errno]int{}, map[api.Errno]int{}
	for range 20000 {
		s := firsts[rule.Intn(len(firsts))]
		for range rule.Intn(4) {
			s += lines[rule.Intn(len(lines))]
		}
		if rule.Intn(8) > 0 {
			s += "\r\n"
		}
		s += bodies[rule.Intn(len(bodies))]
		sent[readsAs(t, s)]++
		heard[hearsAs(t, s)]++
	}
	for _, e := range []api.Errno{api.OK, api.ErrLong, api.ErrText, api.ErrMore} {
		if sent[e] < 100 || heard[e] < 100 {
			t.Errorf("only %d requests and %d responses of error %d", sent[e], heard[e], e)
		}
	}
}

// parts are headers and bodies of messages that may be.
func parts() (all []message) {
	for _, l := range [][]api.Header{nil, list("A", "b"), list("Host", "a", "host", "", "X-y", "a \t: é\xff"), many(63), filled(many(1), 8160), filled(many(63), 8160)} {
		for _, body := range []string{"", "b", "\r\n", "0\r\n\r\n", "GET / HTTP/1.1\r\n\r\n", some(1000), some(32768)} {
			all = append(all, message{headers: l, body: body})
		}
	}
	return all
}

// requests are some that may be.
func requests() (all []api.Request) {
	for _, p := range parts() {
		for _, first := range [][2]string{{"GET", "/"}, {"!", "~"}, {"post", strings.Repeat("t", 2048)}, {strings.Repeat("m", 2035), strings.Repeat("t", 2048)}, {"HTTP", "HTTP/1.1"}} {
			all = append(all, api.Request{Method: first[0], Target: first[1], Headers: p.headers, Body: []byte(p.body)})
		}
	}
	return append(all, api.Request{Method: "GET", Target: "/", Headers: many(64)}, api.Request{Method: "GET", Target: "/", Headers: filled(many(64), 8192)})
}

// responses are some that may be.
func responses() (all []api.Response) {
	for _, p := range parts() {
		for _, reason := range []string{"", "OK", " ", "  O  K ", "200", strings.Repeat("~", 128), strings.Repeat(" ", 128)} {
			for _, status := range []int{200, 201, 204, 206, 302, 304, 404, 500, 599} {
				r := api.Response{Status: status, Reason: reason, Headers: p.headers}
				if status != 204 && status != 304 {
					r.Body = []byte(p.body)
				}
				all = append(all, r)
			}
		}
	}
	return append(all, api.Response{Status: 204, Headers: many(64)}, api.Response{Status: 304, Headers: filled(many(64), 8192)})
}

// withBody is headers, and behind them that of the body.
func withBody(l []api.Header, n int, counted bool) []api.Header {
	if !counted {
		return l
	}
	return append(slices.Clone(l), api.Header{Name: "Content-Length", Value: strconv.Itoa(n)})
}

func TestHt3Request(t *testing.T) {
	for _, r := range requests() {
		b, e := PrintRequest(r)
		if e != api.OK {
			t.Fatalf("Print of %.80q: error %d", sentRequest(r), e)
		}
		want := message{r.Method, r.Target, withBody(r.Headers, len(r.Body), len(r.Body) > 0), string(r.Body)}
		for _, rest := range []string{"", "x", "\r\n", "GET / HTTP/1.1\r\n\r\n", some(40000)} {
			got, n, e := ParseRequest([]byte(string(b) + rest))
			if !ofRequest(got).same(want) || n != len(b) || e != api.OK {
				t.Errorf("Parse of Print of %.80q = %.80q, %d, error %d", sentRequest(r), ofRequest(got), n, e)
			}
		}
	}
}

func TestHt3Response(t *testing.T) {
	for _, r := range responses() {
		b, e := PrintResponse(r)
		if e != api.OK {
			t.Fatalf("Print of %.80q: error %d", sentResponse(r), e)
		}
		want := message{strconv.Itoa(r.Status), r.Reason, withBody(r.Headers, len(r.Body), r.Status != 204 && r.Status != 304), string(r.Body)}
		for _, rest := range []string{"", "x", "\r\n", "HTTP/1.1 200 OK\r\n\r\n"} {
			got, n, e := ParseResponse([]byte(string(b) + rest))
			if !ofResponse(got).same(want) || n != len(b) || e != api.OK {
				t.Errorf("Parse of Print of %.80q = %.80q, %d, error %d", sentResponse(r), ofResponse(got), n, e)
			}
		}
	}
}

// Of a beginning of what was put together more is to come.
func TestHt3Beginning(t *testing.T) {
	beginnings := func(b []byte, parse func(b []byte) (message, int, api.Errno)) {
		for i := range b {
			if i%97 != 0 && i > 100 && len(b)-i > 100 {
				continue
			}
			if m, n, e := parse(b[:i]); !m.same(message{}) || n != 0 || e != api.ErrMore {
				t.Fatalf("Parse of %d bytes of %.80q = %.80q, %d, error %d, want ErrMore", i, b, m, n, e)
			}
		}
	}
	for _, r := range requests() {
		b, _ := PrintRequest(r)
		beginnings(b, func(b []byte) (message, int, api.Errno) {
			r, n, e := ParseRequest(b)
			return ofRequest(r), n, e
		})
	}
	for i, r := range responses() {
		if i%5 != 0 {
			continue
		}
		b, _ := PrintResponse(r)
		beginnings(b, func(b []byte) (message, int, api.Errno) {
			r, n, e := ParseResponse(b)
			return ofResponse(r), n, e
		})
	}
}

// A method may be longer than a line that is read.
func TestHt3LongMethod(t *testing.T) {
	for n, want := range map[int]api.Errno{4083: api.OK, 4084: api.ErrLong, 5000: api.ErrLong} {
		r := api.Request{Method: strings.Repeat("m", n), Target: "/"}
		b, e := PrintRequest(r)
		if e != api.OK {
			t.Errorf("Print of a method of %d bytes: error %d", n, e)
		}
		if _, _, e := ParseRequest(b); e != want {
			t.Errorf("Parse of Print of a method of %d bytes: error %d, want %d", n, e, want)
		}
	}
}

// apart tells whether two lists lie in other memory, their room behind the end too.
func apart(x, y []byte) bool {
	if cap(x) == 0 || cap(y) == 0 {
		return true
	}
	a, b := uintptr(unsafe.Pointer(unsafe.SliceData(x))), uintptr(unsafe.Pointer(unsafe.SliceData(y)))
	return a >= b+uintptr(cap(y)) || b >= a+uintptr(cap(x))
}

// inside is a text's bytes where they lie.
func inside(s string) []byte {
	return unsafe.Slice(unsafe.StringData(s), len(s))
}

func textsOf(m message) [][]byte {
	all := [][]byte{inside(m.one), inside(m.two)}
	for _, h := range m.headers {
		all = append(all, inside(h.Name), inside(h.Value))
	}
	return all
}

func TestR3Apart(t *testing.T) {
	for _, s := range []string{
		"POST /x HTTP/1.1\r\nHost: a\r\nContent-Length: 2\r\n\r\nhixx", "P / HTTP/1.1\nTransfer-Encoding: chunked\n\n3\r\nabc\r\n0\r\n\r\n", "GET / HTTP/1.1\n\n",
		"HTTP/1.1 200 OK\r\n\r\nrest", "HTTP/1.1 404 Not Found\r\nContent-Length: 2\r\n\r\nhi", "HTTP/1.1 304 R\nA: b\n\n", "HTTP/1.1 200 OK\nTransfer-Encoding: chunked\n\n3\r\nabc\r\n0\r\n\r\n",
	} {
		b := []byte(s + "\r\n\r\nmore")[:len(s)]
		kept := bytes.Clone(b[:cap(b)])
		x, _, wrong := ParseRequest(b)
		y, _, other := ParseResponse(b)
		if wrong != api.OK && other != api.OK {
			t.Errorf("%q: errors %d, %d", s, wrong, other)
		}
		for _, part := range slices.Concat(textsOf(message{x.Method, x.Target, x.Headers, ""}), textsOf(message{"", y.Reason, y.Headers, ""}), [][]byte{x.Body, y.Body}) {
			if !apart(part, b) {
				t.Errorf("%q is a piece of %q", part, s)
			}
		}
		if !apart(x.Body, y.Body) {
			t.Errorf("two answers of %q share a body", s)
		}
		clear(x.Body[:cap(x.Body)])
		clear(y.Body[:cap(y.Body)])
		if !bytes.Equal(b[:cap(b)], kept) {
			t.Errorf("%q was turned to %q", kept, b[:cap(b)])
		}
	}
}

// What is handed in isn't changed, nor what lies behind its end, nor does that count.
func TestR3Arguments(t *testing.T) {
	for n := range 5 {
		room := many(10)
		l := room[:n]
		body := []byte("hello world")
		for _, size := range []int{0, 5} {
			given := body[:size]
			r := api.Request{Method: "GET", Target: "/", Headers: l, Body: given}
			x := api.Response{Status: 200, Reason: "OK", Headers: l, Body: given}
			holdsRequest(t, r, true)
			holdsResponse(t, x, true)
			one, _ := PrintRequest(r)
			two, _ := PrintResponse(x)
			for _, b := range [][]byte{one, two} {
				if !apart(b, body) {
					t.Errorf("%q lies in its body", b)
				}
				clear(b[:cap(b)])
			}
			if !slices.Equal(room, many(10)) || string(body) != "hello world" {
				t.Fatalf("arguments were turned to %q, %q", room, body)
			}
			holdsRequest(t, r, true)
			holdsResponse(t, x, true)
		}
	}
	// What stands behind b's end may be the rest of a message, and is not looked at.
	for _, s := range []string{"POST /x HTTP/1.1\r\nContent-Length: 4\r\n\r\nbody", "P / HTTP/1.1\nTransfer-Encoding: chunked\n\n3\r\nabc\r\n0\r\n\r\n"} {
		b := []byte(s)
		for i := range b {
			if _, _, e := ParseRequest(b[:i]); e != api.ErrMore {
				t.Errorf("Parse of %d bytes of %q: error %d", i, s, e)
			}
		}
		if string(b) != s {
			t.Errorf("%q was turned to %q", s, b)
		}
	}
}

func TestR1Large(t *testing.T) {
	for _, piece := range []string{"a", " ", "\n", "\r", "\x00", "\xff", "A: b\r\n", "GET / HTTP/1.1\n", "HTTP/1.1 200 OK\n"} {
		s := strings.Repeat(piece, 1<<20)
		for _, head := range []string{"", requestHead, responseHead, requestHead + "\n", responseHead + "\n", requestHead + "Content-Length: ", responseHead + "Transfer-Encoding: chunked\n\n"} {
			readsAs(t, head+s)
			hearsAs(t, head+s)
		}
		CheckRequest(api.Request{Method: s, Target: s, Headers: list(s, s), Body: []byte(s)})
		CheckResponse(api.Response{Status: 200, Reason: s, Headers: list(s, s), Body: []byte(s)})
	}
	holdsBoth(t, many(1<<16), "", false)
	for _, b := range [][]byte{nil, {}} {
		if r, n, e := ParseRequest(b); !ofRequest(r).same(message{}) || n != 0 || e != api.ErrMore {
			t.Errorf("ParseRequest of nothing: %d, error %d", n, e)
		}
		if r, n, e := ParseResponse(b); !ofResponse(r).same(message{}) || n != 0 || e != api.ErrMore {
			t.Errorf("ParseResponse of nothing: %d, error %d", n, e)
		}
	}
}
