package xml

import (
	stdxml "encoding/xml"
	"fmt"
	"io"
	"math/rand"
	"reflect"
	"regexp"
	"runtime/debug"
	"strings"
	"testing"
	"unicode/utf8"
	"unsafe"

	"lantern/api"
	"lantern/entity"
)

// What this file reads files by.
const aName = `[A-Za-z_][A-Za-z0-9._:-]*`

var (
	standsNot = regexp.MustCompile(`[^\t\n\r\x{20}-\x{D7FF}\x{E000}-\x{FFFD}\x{10000}-\x{10FFFF}]`)
	lineEnds  = regexp.MustCompile(`\r\n?`)
	wholeName = regexp.MustCompile(`^[A-Za-z_][A-Za-z0-9._:-]{0,63}$`)
	anAside   = regexp.MustCompile(`^(?s:<!--.*?-->|<\?.*?\?>)`)
	someWhite = regexp.MustCompile(`^[ \t\n]+`)
	aBegin    = regexp.MustCompile(`^<(` + aName + `)`)
	anAttr    = regexp.MustCompile(`^[ \t\n]+(` + aName + `)[ \t\n]*=[ \t\n]*(?:"([^"]*)"|'([^']*)')`)
	aBeginEnd = regexp.MustCompile(`^[ \t\n]*(/?)>`)
	anEnd     = regexp.MustCompile(`^</(` + aName + `)[ \t\n]*>`)
	aText     = regexp.MustCompile(`^[^<]+<`)
	aRaw      = regexp.MustCompile(`^(?s:<!\[CDATA\[(.*?)\]\]>)`)
)

// model is a reader of this file's own: it takes one piece after the other off its text
// by patterns, and has the elements that are open on a pile.
type model struct {
	rest  string
	nodes int
	open  []api.Node
	tree  *api.Node
}

// parseOf is what Parse is to tell, by this file's patterns.
func parseOf(s string) (api.Node, api.Errno) {
	if len(s) > 65536 {
		return api.Node{}, api.ErrLong
	}
	if !utf8.ValidString(s) || standsNot.MatchString(s) {
		return api.Node{}, api.ErrText
	}
	m := model{rest: lineEnds.ReplaceAllString(s, "\n")}
	for m.tree == nil || m.rest != "" {
		if e := m.step(); e != api.OK {
			return api.Node{}, e
		}
	}
	return *m.tree, api.OK
}

func (m *model) take(p *regexp.Regexp) []string {
	found := p.FindStringSubmatch(m.rest)
	if found != nil {
		m.rest = m.rest[len(found[0]):]
	}
	return found
}

func (m *model) step() api.Errno {
	if m.take(anAside) != nil {
		return api.OK
	}
	if len(m.open) > 0 {
		return m.inside()
	}
	if m.take(someWhite) != nil {
		return api.OK
	}
	if m.tree != nil {
		return api.ErrText
	}
	if strings.HasPrefix(m.rest, "<!DOCTYPE") {
		return api.ErrDenied
	}
	return m.begin()
}

func (m *model) inside() api.Errno {
	if p := m.take(anEnd); p != nil {
		if p[1] != m.open[len(m.open)-1].Name {
			return api.ErrText
		}
		m.shut()
		return api.OK
	}
	if p := m.take(aRaw); p != nil {
		return m.words(p[1])
	}
	if p := m.take(aText); p != nil {
		m.rest = "<" + m.rest
		written := strings.TrimSuffix(p[0], "<")
		s, e := entity.Unescape(written)
		if e != api.OK || strings.Contains(written, "]]>") {
			return api.ErrText
		}
		return m.words(s)
	}
	return m.begin()
}

// shut puts the element that was opened last into the one around it.
func (m *model) shut() {
	top := len(m.open) - 1
	done := m.open[top]
	m.open = m.open[:top]
	if top == 0 {
		m.tree = &done
	} else {
		m.open[top-1].Kids = append(m.open[top-1].Kids, done)
	}
}

func (m *model) words(s string) api.Errno {
	in := &m.open[len(m.open)-1]
	last := len(in.Kids) - 1
	switch {
	case s == "":
		return api.OK
	case last >= 0 && in.Kids[last].Name == "":
		in.Kids[last].Text += s
		return api.OK
	}
	in.Kids = append(in.Kids, api.Node{Text: s})
	return m.more()
}

func (m *model) more() api.Errno {
	if m.nodes++; m.nodes == 4097 {
		return api.ErrLong
	}
	return api.OK
}

func (m *model) begin() api.Errno {
	p := m.take(aBegin)
	switch {
	case p == nil || len(p[1]) > 64:
		return api.ErrText
	case len(m.open) == 16:
		return api.ErrDeep
	}
	if e := m.more(); e != api.OK {
		return e
	}
	n := api.Node{Name: p[1]}
	for p := m.take(anAttr); p != nil; p = m.take(anAttr) {
		value, e := entity.Value(p[2] + p[3])
		if e != api.OK || len(p[1]) > 64 || strings.Contains(p[2]+p[3], "<") {
			return api.ErrText
		}
		for _, a := range n.Attrs {
			if a.Name == p[1] {
				return api.ErrText
			}
		}
		if e := m.more(); e != api.OK {
			return e
		}
		n.Attrs = append(n.Attrs, api.Header{Name: p[1], Value: value})
	}
	p = m.take(aBeginEnd)
	if p == nil {
		return api.ErrText
	}
	m.open = append(m.open, n)
	if p[1] == "/" {
		m.shut()
	}
	return api.OK
}

// checkOf is what Check is to tell, by this file's patterns.
func checkOf(n api.Node) api.Errno {
	nodes, deepest, sound := measure(n)
	switch {
	case !sound || n.Name == "":
		return api.ErrArg
	case deepest > 16:
		return api.ErrDeep
	case nodes > 4096:
		return api.ErrLong
	}
	return api.OK
}

// measure is how many nodes there are, how deep elements are nested, and whether all of it may be.
func measure(n api.Node) (nodes, deepest int, sound bool) {
	stands := func(s string) bool { return utf8.ValidString(s) && !standsNot.MatchString(s) }
	if n.Name == "" {
		return 1, 0, n.Text != "" && stands(n.Text) && len(n.Attrs)+len(n.Kids) == 0
	}
	nodes = 1 + len(n.Attrs)
	sound = n.Text == "" && wholeName.MatchString(n.Name)
	names := map[string]int{}
	for _, a := range n.Attrs {
		names[a.Name]++
		sound = sound && wholeName.MatchString(a.Name) && names[a.Name] == 1 && stands(a.Value)
	}
	before := "element"
	for _, kid := range n.Kids {
		more, deep, well := measure(kid)
		sound = sound && well && before+kid.Name != ""
		before = kid.Name
		nodes += more
		deepest = max(deepest, deep)
	}
	return nodes, deepest + 1, sound
}

// printOf is what Print is to tell.
func printOf(n api.Node) (string, api.Errno) {
	if e := checkOf(n); e != api.OK {
		return "", e
	}
	s := put(n)
	if len(s) > 65536 {
		return "", api.ErrLong
	}
	return s, api.OK
}

var (
	signs  = []string{"&", "&amp;", "<", "&lt;", ">", "&gt;", `"`, "&quot;", "'", "&apos;", "\r", "&#13;"}
	inText = strings.NewReplacer(signs...)
	inAttr = strings.NewReplacer(append(signs, "\t", "&#9;", "\n", "&#10;")...)
)

func put(n api.Node) string {
	if n.Name == "" {
		return inText.Replace(n.Text)
	}
	var s strings.Builder
	s.WriteString("<" + n.Name)
	for _, a := range n.Attrs {
		fmt.Fprintf(&s, ` %s="%s"`, a.Name, inAttr.Replace(a.Value))
	}
	if len(n.Kids) == 0 {
		return s.String() + "/>"
	}
	s.WriteString(">")
	for _, kid := range n.Kids {
		s.WriteString(put(kid))
	}
	return s.String() + "</" + n.Name + ">"
}

// Short ways to write nodes: elem's parts are attributes (Header), texts (string) and elements (Node).
func elem(name string, parts ...any) api.Node {
	n := api.Node{Name: name}
	for _, p := range parts {
		switch p := p.(type) {
		case api.Header:
			n.Attrs = append(n.Attrs, p)
		case string:
			n.Kids = append(n.Kids, api.Node{Text: p})
		case api.Node:
			n.Kids = append(n.Kids, p)
		}
	}
	return n
}

func attr(name, value string) api.Header { return api.Header{Name: name, Value: value} }

// nest is elements in elements, so many, and in the last one what is handed in.
func nest(deep int, parts ...any) api.Node {
	n := elem("a", parts...)
	for range deep - 1 {
		n = elem("a", n)
	}
	return n
}

// same tells whether two nodes are the same, a list nil or empty.
func same(x, y api.Node) bool {
	if x.Name != y.Name || x.Text != y.Text || len(x.Attrs) != len(y.Attrs) || len(x.Kids) != len(y.Kids) {
		return false
	}
	for i := range x.Attrs {
		if x.Attrs[i] != y.Attrs[i] {
			return false
		}
	}
	for i := range x.Kids {
		if !same(x.Kids[i], y.Kids[i]) {
			return false
		}
	}
	return true
}

// checks holds Check and Print, and this file's own, against what they are to tell.
func checks(t *testing.T, n api.Node, e api.Errno) {
	t.Helper()
	if got := Check(n); got != e {
		t.Errorf("Check(%.100q) = error %d, want %d", fmt.Sprint(n), got, e)
	}
	if got := checkOf(n); got != e {
		t.Errorf("checkOf(%.100q) = error %d, want %d", fmt.Sprint(n), got, e)
	}
	printsAs(t, n)
}

// printsAs holds Print against this file's own.
func printsAs(t *testing.T, n api.Node) {
	t.Helper()
	s, e := Print(n)
	if want, errno := printOf(n); s != want || e != errno {
		t.Errorf("Print(%.100q) = %.100q, error %d, want %.100q, error %d", fmt.Sprint(n), s, e, want, errno)
	}
}

func prints(t *testing.T, n api.Node, want string) {
	t.Helper()
	checks(t, n, api.OK)
	if s, e := Print(n); s != want || e != api.OK {
		t.Errorf("Print(%.100q) = %.100q, error %d, want %.100q", fmt.Sprint(n), s, e, want)
	}
}

// parses holds what Parse, and this file's reader, tell of a file against what they are to tell.
func parses(t *testing.T, s string, want api.Node) {
	t.Helper()
	parsesTo(t, s, want, api.OK)
}

func refuses(t *testing.T, s string, e api.Errno) {
	t.Helper()
	parsesTo(t, s, api.Node{}, e)
}

func parsesTo(t *testing.T, s string, want api.Node, errno api.Errno) {
	t.Helper()
	if got, e := Parse(s); !same(got, want) || e != errno {
		t.Errorf("Parse(%.100q) = %.100q, error %d, want %.100q, error %d", s, fmt.Sprint(got), e, fmt.Sprint(want), errno)
	}
	if got, e := parseOf(s); !same(got, want) || e != errno {
		t.Errorf("Parse(%.100q): this file's patterns make %.100q, error %d, want %.100q, error %d", s, fmt.Sprint(got), e, fmt.Sprint(want), errno)
	}
}

// as holds what Parse tells of a file against what this file's patterns make of it, and what follows.
func as(t *testing.T, s string) {
	t.Helper()
	got, e := Parse(s)
	if want, errno := parseOf(s); !same(got, want) || e != errno {
		t.Errorf("Parse(%.100q) = %.100q, error %d, want %.100q, error %d", s, fmt.Sprint(got), e, fmt.Sprint(want), errno)
		return
	}
	if e == api.OK {
		follows(t, got)
	}
}

// follows holds a tree that may be against Xm4.
func follows(t *testing.T, n api.Node) {
	t.Helper()
	if e := Check(n); e != api.OK {
		t.Errorf("Check(%.100q) = error %d", fmt.Sprint(n), e)
	}
	printsAs(t, n)
	s, e := Print(n)
	if e == api.ErrLong {
		return
	}
	if back, e := Parse(s); !same(back, n) || e != api.OK {
		t.Errorf("Parse of Print(%.100q) = %.100q, error %d", fmt.Sprint(n), fmt.Sprint(back), e)
	}
}

// grown calls f on every text of at most size parts behind head.
func grown(head string, size int, parts []string, f func(s string)) {
	f(head)
	if size == 0 {
		return
	}
	for _, p := range parts {
		grown(head+p, size-1, parts, f)
	}
}

func TestXm1Check(t *testing.T) {
	for _, n := range []api.Node{
		elem("a"), elem("_"), elem("Z"), elem("a0.-_:Z"), elem("a", "x"), elem("a", " "), elem("a", elem("b"), elem("b")),
		elem("a", "x", elem("b"), "y"), elem("a", attr("a", "")), elem("a", attr("a", "x"), attr("A", "x")), elem("a", attr("b", "<&>\"'\t\r\n€")),
		elem("a", "<![CDATA[]]>"), elem("a", elem("a", attr("x", "1")), elem("a", attr("x", "1"))), elem("a", "\uFFFD\U0010FFFF"),
		{Name: "a", Attrs: []api.Header{}, Kids: []api.Node{}}, elem("a", api.Node{Text: "x", Attrs: []api.Header{}, Kids: []api.Node{}}),
	} {
		checks(t, n, api.OK)
	}
}

// broken is nodes that may not be, whatever is around them.
func broken() []api.Node {
	list := []api.Node{
		{}, {Text: "\x00"}, {Text: "x\uFFFE"}, {Text: "\xff"}, {Text: "x", Attrs: []api.Header{attr("a", "")}}, {Attrs: []api.Header{attr("a", "")}},
		{Text: "x", Kids: []api.Node{elem("a")}}, {Kids: []api.Node{elem("a")}}, {Kids: []api.Node{{Text: "x"}}}, {Name: "a", Text: "x"}, {Name: "a", Text: " "},
		{Name: "a", Text: "x", Kids: []api.Node{{Text: "x"}}},
		elem("a", "x", "y"), elem("a", elem("b"), "x", "y"), elem("a", "x", "y", elem("b")), elem("a", ""), elem("a", "", "x"), elem("a", elem("b"), ""),
		elem("a", attr("b", ""), attr("b", "")), elem("a", attr("b", "1"), attr("c", "2"), attr("b", "3")),
		elem("a", attr("b", "\x00")), elem("a", attr("b", "\xff")), elem("a", attr("b", "x\uFFFF")),
	}
	for _, name := range []string{"0", "-a", ".a", ":a", "a b", "a\n", " a", "é", "aé", "a\x00", "a\xff", "a/", "a>", "<a", "a=", "a\"", strings.Repeat("a", 65), "\uFF41"} {
		list = append(list, elem(name), elem("a", attr(name, "")), elem(name, elem("a"), "x"))
	}
	return append(list, elem("a", attr("", "")), elem("a", attr("a", ""), attr("", "")))
}

func TestXm1CheckRefuses(t *testing.T) {
	for _, n := range broken() {
		checks(t, n, api.ErrArg)
		checks(t, elem("a", n), api.ErrArg)
		checks(t, elem("a", elem("b", n), elem("c")), api.ErrArg)
		checks(t, elem("a", elem("b"), "x", elem("c", "y", elem("d"), n)), api.ErrArg)
	}
	checks(t, api.Node{Text: "x"}, api.ErrArg) // a text may be, but is no tree
}

func TestXm1CheckEveryByte(t *testing.T) {
	for c := range 256 {
		s := string([]byte{byte(c)})
		letter := regexp.MustCompile(`^[A-Za-z]$`).MatchString(s)
		inner := letter || regexp.MustCompile(`^[0-9._:-]$`).MatchString(s)
		for name, may := range map[string]bool{s: letter || s == "_", s + "a": letter || s == "_", "a" + s: inner, "_" + s: inner, "a" + s + "a": inner, strings.Repeat("a", 63) + s: inner} {
			want := api.ErrArg
			if may {
				want = api.OK
			}
			checks(t, elem(name), want)
			checks(t, elem("a", attr(name, "x")), want)
			checks(t, elem("a", elem("b"), elem(name)), want)
		}
		want := api.ErrArg
		if c < 128 && (c >= 32 || c == 9 || c == 10 || c == 13) {
			want = api.OK
		}
		checks(t, elem("a", s), want)
		checks(t, elem("a", "x"+s+"y"), want)
		checks(t, elem("a", attr("b", s)), want)
	}
	for size := 1; size <= 130; size++ {
		want := api.OK
		if size > 64 {
			want = api.ErrArg
		}
		checks(t, elem(strings.Repeat("n", size)), want)
		checks(t, elem("a", attr(strings.Repeat("n", size), "")), want)
	}
}

func TestXm1CheckDeep(t *testing.T) {
	for deep := 1; deep <= 40; deep++ {
		want := api.OK
		if deep > 16 {
			want = api.ErrDeep
		}
		checks(t, nest(deep), want)
		checks(t, nest(deep, "x"), want)
		checks(t, nest(deep, attr("b", "x")), want)
		checks(t, nest(deep, "x", elem("b"), "y"), map[bool]api.Errno{true: api.OK, false: api.ErrDeep}[deep < 16])
		checks(t, elem("a", elem("b"), nest(deep), "x", elem("c")), map[bool]api.Errno{true: api.OK, false: api.ErrDeep}[deep < 16])
	}
}

// many is kids, so many, one in two a text.
func many(count int) []any {
	parts := make([]any, count)
	for i := range parts {
		if i%2 == 0 {
			parts[i] = elem("b")
		} else {
			parts[i] = "x"
		}
	}
	return parts
}

// manyAttrs is attributes, so many.
func manyAttrs(count int) []any {
	parts := make([]any, count)
	for i := range parts {
		parts[i] = attr(fmt.Sprintf("n%d", i), "x")
	}
	return parts
}

func TestXm1CheckMany(t *testing.T) {
	for count := 4090; count <= 4100; count++ {
		want := api.OK
		if count > 4096 {
			want = api.ErrLong
		}
		checks(t, elem("a", many(count-1)...), want)
		checks(t, elem("a", manyAttrs(count-1)...), want)
		checks(t, elem("a", append(manyAttrs(2000), many(count-2001)...)...), want)
		checks(t, elem("a", elem("b", manyAttrs(1000)...), elem("c", many(count-1003)...)), want)
		checks(t, nest(15, many(count-15)...), want)
	}
}

func TestXm1CheckOrder(t *testing.T) {
	wide := many(5000)
	checks(t, nest(17, wide...), api.ErrDeep)
	checks(t, elem("a", append(wide, nest(16))...), api.ErrDeep)
	checks(t, elem("a", append([]any{nest(16)}, wide...)...), api.ErrDeep)
	for _, n := range broken() {
		checks(t, nest(20, n), api.ErrArg)
		checks(t, elem("a", nest(20), n), api.ErrArg)
		checks(t, elem("a", append(many(5001), n)...), api.ErrArg)
		checks(t, elem("a", append(many(5001), n, elem("b"), nest(20))...), api.ErrArg)
	}
	checks(t, elem("a", append(manyAttrs(5000), attr("n0", ""))...), api.ErrArg)
	checks(t, elem("a", append(manyAttrs(5000), attr("n4999", ""))...), api.ErrArg)
}

func TestXm1Print(t *testing.T) {
	for want, n := range map[string]api.Node{
		`<a/>`:                       elem("a"),
		`<a b=""/>`:                  elem("a", attr("b", "")),
		`<a b="1" c="2"/>`:           elem("a", attr("b", "1"), attr("c", "2")),
		`<a c="2" b="1"/>`:           elem("a", attr("c", "2"), attr("b", "1")),
		`<a>x</a>`:                   elem("a", "x"),
		`<a b="1">x<c/></a>`:         elem("a", attr("b", "1"), "x", elem("c")),
		`<a><b><c/></b><d>y</d></a>`: elem("a", elem("b", elem("c")), elem("d", "y")),
		`<a b="&lt;&gt;&amp;&quot;&apos;&#13;&#9;&#10; ">` + "&lt;&gt;&amp;&quot;&apos;&#13;\t\n </a>": elem("a", attr("b", "<>&\"'\r\t\n "), "<>&\"'\r\t\n "),
		`<a b="&amp;#9;">&amp;#10;</a>`:       elem("a", attr("b", "&#9;"), "&#10;"),
		`<a:b _.-:="€">` + "\U0001F600</a:b>": elem("a:b", attr("_.-:", "€"), "\U0001F600"),
		`<a>]]&gt;</a>`:                       elem("a", "]]>"),
		`<a> </a>`:                            elem("a", " "),
	} {
		prints(t, n, want)
		follows(t, n)
	}
}

func TestXm1PrintLong(t *testing.T) {
	around := map[string]func(s string) api.Node{
		"<a></a>":             func(s string) api.Node { return elem("a", s) },
		`<a b=""/>`:           func(s string) api.Node { return elem("a", attr("b", s)) },
		`<a><b></b><c/></a>`:  func(s string) api.Node { return elem("a", elem("b", s), elem("c")) },
		`<a b="" c="x">y</a>`: func(s string) api.Node { return elem("a", attr("b", s), attr("c", "x"), "y") },
		`<a>&lt;</a>`:         func(s string) api.Node { return elem("a", "<"+s) },
		`<a b="&#9;&#10;"/>`:  func(s string) api.Node { return elem("a", attr("b", s+"\t\n")) },
	}
	for frame, with := range around {
		for size := 65530; size <= 65540; size++ {
			n := with(strings.Repeat("x", size-len(frame)))
			checks(t, n, api.OK)
			s, e := Print(n)
			if size <= 65536 && (len(s) != size || e != api.OK) || size > 65536 && (s != "" || e != api.ErrLong) {
				t.Errorf("Print of %d bytes has %d, error %d", size, len(s), e)
			}
		}
		for _, size := range []int{13200, 65536, 65537, 1 << 18} {
			checks(t, with(strings.Repeat("&", size)), api.OK)
			if s, e := Print(with(strings.Repeat("&", size))); s != "" || e != api.ErrLong {
				t.Errorf("Print of %d signs has %d bytes, error %d", size, len(s), e)
			}
		}
	}
	// Names alone may be too long, and no short piece at the end makes up for a long one ahead.
	long := strings.Repeat("n", 64)
	for count := 480; count <= 500; count++ {
		parts := []any{}
		for range count {
			parts = append(parts, elem(long, "x"))
		}
		printsAs(t, elem("a", parts...))
	}
	if _, e := Print(elem("a", strings.Repeat("x", 70000), elem("b"), "y")); e != api.ErrLong {
		t.Errorf("Print = error %d, want ErrLong", e)
	}
	if _, e := Print(nest(17, strings.Repeat("x", 70000))); e != api.ErrDeep {
		t.Errorf("Print = error %d, want ErrDeep", e)
	}
	if _, e := Print(elem("a", strings.Repeat("x", 70000), elem("b", attr("0", "")))); e != api.ErrArg {
		t.Errorf("Print = error %d, want ErrArg", e)
	}
}

func TestXm2Example(t *testing.T) {
	parses(t, `<a b="1">x<c/></a>`, elem("a", attr("b", "1"), "x", elem("c")))
	refuses(t, `<a>`, api.ErrText)
	refuses(t, `<!DOCTYPE a><a/>`, api.ErrDenied)
}

func TestXm2Parse(t *testing.T) {
	a := elem("a")
	for s, want := range map[string]api.Node{
		"<a/>": a, "<a />": a, "<a\t\r\n />": a, "<a></a>": a, "<a ></a >": a, "<a\n></a\t\r\n >": a,
		" \t\r\n<a/> \t\r\n": a, "<?xml version='1.0'?><a/>": a, "\n<?xml?>\n<a/>": a, "<?xml?><?xml?><a/><?xml?>": a, "<??><a/>": a, "<?<?><a/>": a, "<?a>?><a/>": a, "<?'?><a/><?'?>": a,
		"<!----><a/>": a, "<!-- c --><a/><!-- d -->": a, "<!-- -- --><a/>": a, "<!--<a>--><a/>": a, "<!--->--><a/>": a, "<!-->--><a/>": a, "<!--\r\n--> <?n?> <!--&--> <a/> <!--]]>--><?&?>": a,
		"<!--<!DOCTYPE a>--><a/>": a, "<?<!DOCTYPE a>?><a/>": a, "<a/><!--<!DOCTYPE a>-->": a, "<!--<?--><a/><!--?>-->": a,
		"<a><!-- c --></a>": a, "<a><?n?></a>": a, "<a><![CDATA[]]></a>": a, "<a><!----><??><![CDATA[]]></a>": a,
		"<a>x</a>": elem("a", "x"), "<a> </a>": elem("a", " "), "<a>\r\n</a>": elem("a", "\n"), "<a>\r</a>": elem("a", "\n"), "<a>&#13;\r\n</a>": elem("a", "\r\n"), "<a>\r&#10;</a>": elem("a", "\n\n"),
		"<a>&lt;&#x20AC;</a>": elem("a", "<€"), "<a>></a>": elem("a", ">"), "<a>]]</a>": elem("a", "]]"), "<a>]] ></a>": elem("a", "]] >"), "<a>]]&gt;</a>": elem("a", "]]>"), "<a>]></a>": elem("a", "]>"), "<a>'\"</a>": elem("a", "'\""), "<a>-->?></a>": elem("a", "-->?>"), "<a>/></a>": elem("a", "/>"),
		"<a>x<!-- c -->y</a>": elem("a", "xy"), "<a>x<?n?>y</a>": elem("a", "xy"), "<a>x<![CDATA[]]>y</a>": elem("a", "xy"), "<a>]]<!---->></a>": elem("a", "]]>"), "<a>]<![CDATA[]>]]></a>": elem("a", "]]>"), "<a>]]<![CDATA[>]]></a>": elem("a", "]]>"),
		"<a><![CDATA[x]]></a>": elem("a", "x"), "<a><![CDATA[<b>&amp;]]></a>": elem("a", "<b>&amp;"), "<a><![CDATA[]]]]></a>": elem("a", "]]"), "<a><![CDATA[]]]]><![CDATA[>]]></a>": elem("a", "]]>"), "<a><![CDATA[<![CDATA[]]></a>": elem("a", "<![CDATA["),
		"<a><![CDATA[\r\n\r&#13;]]></a>": elem("a", "\n\n&#13;"), "<a><![CDATA[<!--]]>--></a>": elem("a", "<!---->"), "<a><!--<![CDATA[-->]]</a>": elem("a", "]]"), "<a><![CDATA[</a>]]></a>": elem("a", "</a>"),
		"<a>&amp;<![CDATA[lt;]]></a>": elem("a", "&lt;"), "<a>x<b/>y<b/></a>": elem("a", "x", elem("b"), "y", elem("b")), "<a><b/><!----><b/></a>": elem("a", elem("b"), elem("b")), "<a> <b/> </a>": elem("a", " ", elem("b"), " "),
		"<a><a><a/></a></a>": elem("a", elem("a", elem("a"))), "<a><b>x</b>y<c><d/>z</c></a>": elem("a", elem("b", "x"), "y", elem("c", elem("d"), "z")),
		"<a><!--x--><![CDATA[]]>y<?z?></a>": elem("a", "y"), "<a><b/><![CDATA[]]><b/></a>": elem("a", elem("b"), elem("b")),
		"<_/>": elem("_"), "<A:b.c-d_0/>": elem("A:b.c-d_0"), "<a:></a:>": elem("a:"), "<a-->x</a-->": elem("a--", "x"), "<a.b>x</a.b>": elem("a.b", "x"),
	} {
		parses(t, s, want)
	}
}

func TestXm2Attributes(t *testing.T) {
	of := func(value string) api.Node { return elem("a", attr("b", value)) }
	for s, want := range map[string]api.Node{
		`<a b="1"/>`: of("1"), `<a b='1'/>`: of("1"), `<a b="1" />`: of("1"), `<a b="1"></a>`: of("1"), `<a b="1" ></a>`: of("1"), `<a b = "1"/>`: of("1"), "<a\r\nb\t=\n'1'\r/>": of("1"),
		`<a b=""/>`: of(""), `<a b=''/>`: of(""), `<a b="'"/>`: of("'"), `<a b='"'/>`: of(`"`), `<a b=">"/>`: of(">"), `<a b="/>"/>`: of("/>"), `<a b="]]>"/>`: of("]]>"), `<a b="="/>`: of("="), `<a b="c='d'"/>`: of("c='d'"),
		"<a b='\t\r\n\n '/>": of("    "), "<a b='\r'/>": of(" "), `<a b="&#9;&#10;&#13; &lt;&quot;&apos;&#x3C;"/>`: of("\t\n\r <\"'<"), `<a b="-->"/>`: of("-->"), `<a b='?>'/>`: of("?>"), `<a b=" x "/>`: of(" x "),
		`<a b="1" c="2"/>`: elem("a", attr("b", "1"), attr("c", "2")), `<a c='1' b='1' a='1'>x</a>`: elem("a", attr("c", "1"), attr("b", "1"), attr("a", "1"), "x"),
		`<a b="1" B="2"/>`: elem("a", attr("b", "1"), attr("B", "2")), `<a b="1"><a b="1"/></a>`: elem("a", attr("b", "1"), elem("a", attr("b", "1"))),
		`<a xmlns:b="x" b:c="y"/>`: elem("a", attr("xmlns:b", "x"), attr("b:c", "y")),
	} {
		parses(t, s, want)
	}
	for _, s := range []string{
		`<a b/>`, `<a b>x</a>`, `<a b=/>`, `<a b=1/>`, `<a b="1/>`, `<a b='1"/>`, `<a b="1'/>`, `<a b=1"/>`, `<a ="1"/>`, `<a "1"/>`, `<a b"1"/>`, `<a b=="1"/>`, `<a 0="1"/>`, `<a b c="1"/>`, `<ab="1"/>`, `<a= "1"/>`,
		`<a b="<"/>`, `<a b="&"/>`, `<a b="&nbsp;"/>`, `<a b="&#0;"/>`, `<a b="&lt"/>`, `<a b="1" b="1"/>`, `<a b="1" c="1" b="2"/>`, `<a b='1'b='2'/>`, `<a b="1"/ >`, `<a/b="1">`, `<a b="1"/`, `<a b="1"`, `<a b="1`, `<a b="`, `<a b=`, `<a b`, `<a `,
		`<a b="1"<!-- c -->/>`, `<a <!-- c --> b="1"/>`, `<a <?n?>/>`, `<a b="1">x</a b="1">`, `<a é="1"/>`, "<a\u00a0b=\"1\"/>", "<a\x0bb='1'/>", "<a\u2003b='1'/>", `<a b=“1”/>`, `<a b="1";/>`, `<a,b="1"/>`,
	} {
		refuses(t, s, api.ErrText)
	}
}

// Ahead of an attribute there is white, one rune of it or more; in the other places there may be none.
func TestXm2WhiteAheadOfAttributes(t *testing.T) {
	two := elem("a", attr("b", "1"), attr("c", "2"))
	for _, white := range []string{" ", "\t", "\n", "\r", "\r\n", "  ", " \t\r\n"} {
		for _, frame := range []string{`<a%b='1'%c='2'/>`, `<a%b="1"%c="2"/>`, `<a%b='1'%c="2"%/>`, `<a%b="1"%c='2'></a>`, `<a%b='1'%c='2'%></a%>`, `<a%b%=%'1'%c%=%'2'%/>`} {
			parses(t, strings.ReplaceAll(frame, "%", white), two)
		}
	}
	for _, s := range []string{
		`<a b=''c=''/>`, `<a b="1"c="2"/>`, `<a b='1'c="2"/>`, `<a b="1"c='2'/>`, `<a b='1'c='2'>x</a>`, `<a b='1'c='2' />`, `<a b='1'c = '2'/>`, `<a b='1'c='2'd='3'/>`, `<a b='1' c='2'd='3'/>`, `<a b='1'c='2' d='3'/>`, `<a b='1'_='2'/>`,
		`<a b='1'c`, `<a b='1'c/>`, `<a b='1'c>`, `<a b='1'b='1'/>`, `<a b='1'c='&'/>`, `<r><a b='1'c='2'/></r>`, `<r>x<a b='1'c='2'>y</a></r>`, `<a b='1'&#32;c='2'/>`, `<a b='1'<!-- -->c='2'/>`, "<a b='1'\u00a0c='2'/>", "<a b='1'\x0cc='2'/>",
	} {
		refuses(t, s, api.ErrText)
	}
	// What is wrong first is told: that the white is missing ahead of what stands behind, one too many or too deep.
	refuses(t, "<a b='1'c='2'>"+pile(20), api.ErrText)
	refuses(t, pile(16)+"<a b='1'c='2'>", api.ErrDeep)
	refuses(t, full(4094, "<b c=''d=''/>"), api.ErrText)
	refuses(t, full(4094, "<b c='' d=''e=''/>"), api.ErrLong)
}

func TestXm2Refuses(t *testing.T) {
	for _, s := range []string{
		"", " ", "x", "<", ">", "</a>", "<a", "<a/", "<a>", "<a>x", "<a></", "<a></a", "<a></a ", "<a></>", "<a></b>", "<a></A>", "<a></ a>", "<a></aa>", "<aa></a>", "<a><b></a></b>", "<a><b></a>", "<a></a></a>", "</a><a/>",
		"< a/>", "<a / >", "<a//>", "<0/>", "<-/>", "<:a/>", "<.a/>", "<é/>", "<aé/>", "<a\u00a0/>", "</>", "<>", "<></>", "<a/>x", "x<a/>", "<a/><b/>", "<a></a><a></a>", "<a/><", "<a/>&#32;", "&#32;<a/>", "\ufeff<a/>", "<a/>\u00a0", "\x85<a/>", "\u0085<a/>", "<![CDATA[]]><a/>", "<a/><![CDATA[]]>", "<a/><![CDATA[x]]>",
		"<!-- c -->", "<?xml?>", "<!--", "<!-->", "<!--->", "<!---", "<!--><a/>", "<!---><a/>", "<!-- ", "<!- c --><a/>", "<! -- c --><a/>", "<!><a/>", "<?", "<?>", "<?><a/>", "<?n>", "<?n><a/>", "<? n ><a/>", "<a/><!--", "<a/><?", "<a/><!-->", "<a/><?>", "<a/><!---->x", "<a/>--><!---->",
		"<!doctype a><a/>", "<!Doctype a><a/>", "<!DOCTYP a><a/>", "<! DOCTYPE a><a/>", "< !DOCTYPE a><a/>", "<a/><!DOCTYPE a>", "<a><!DOCTYPE a></a>", "x<!DOCTYPE a><a/>", "<!--<!DOCTYPE a>", "<?<!DOCTYPE a>", "<!ELEMENT a><!DOCTYPE a><a/>", "<![CDATA[]]><!DOCTYPE a>", "<a<!DOCTYPE a>", "<!DOCTYP", "<!", "!DOCTYPE", "<a><!ELEMENT a></a>", "<!ENTITY a 'b'><a/>",
		"<a>]]></a>", "<a>x]]>y</a>", "<a>]]]></a>", "<a>&</a>", "<a>&nbsp;</a>", "<a>&#0;</a>", "<a>&l<!---->t;</a>", "<a>&<![CDATA[lt;]]></a>", "<a>&lt</a>", "<a><![CDATA[]]>]]></a>", "<a><![CDATA[x</a>", "<a><![CDATA[x]] ></a>", "<a><![CDATA[]></a>", "<a><![CDATA[", "<a><![CDATA", "<a><![cdata[x]]></a>", "<a><! [CDATA[x]]></a>", "<a><![CDATA [x]]></a>",
		"<a><</a>", "<a><x</a>", "<a>x<</a>", "<a>< </a>", "<a><0/></a>", "<a><!--</a>", "<a><?</a>", "<a><!--></a>", "<a><?></a>", "<a><!></a>", "<a><!- - --></a>", "<a></a><!-- ",
	} {
		refuses(t, s, api.ErrText)
	}
	for _, s := range []string{"\xff", "<a>\xff</a>", "<a b='\xff'/>", "<!--\xff--><a/>", "<?\xc3?><a/>", "<a/>\x00", "<a>\x00</a>", "<a>\uFFFE</a>", "<!--\x01--><a/>", "<!DOCTYPE a>\x00", "<!DOCTYPE \xff", strings.Repeat("<a>", 17) + "\x00", "<a>\xed\xa0\x80</a>", "<a><![CDATA[\x0b]]></a>"} {
		refuses(t, s, api.ErrText)
	}
}

func TestXm2Denied(t *testing.T) {
	for _, s := range []string{
		"<!DOCTYPE", "<!DOCTYPE>", "<!DOCTYPEa", "<!DOCTYPE a><a/>", " \t\r\n<!DOCTYPE a>", "<?xml?><!DOCTYPE a><a>", "<!----><!DOCTYPE a>", "<!-- --> <?n?>\n<!DOCTYPE html", "<!DOCTYPE a [<!ENTITY b 'c'>]><a>&b;</a>", "<!DOCTYPE<", "<!DOCTYPE a><!--", "<!DOCTYPE " + strings.Repeat("<a>", 17), "<!DOCTYPE></a>",
	} {
		refuses(t, s, api.ErrDenied)
	}
}

func TestXm2Long(t *testing.T) {
	for _, frame := range []string{"<a>%s</a>", "<a b='%s'/>", "<!--%s--><a/>", "<a/><?%s?>", "<a>&lt;%s</a>", "<a/>%[1]s<", "%s", "<!DOCTYPE %s", "<a>\x00%s", "\xff%s", "<a>\r\n%s</a>"} {
		empty := len(fmt.Sprintf(frame, ""))
		for size := 65534; size <= 65538; size++ {
			s := fmt.Sprintf(frame, strings.Repeat(" ", size-empty))
			as(t, s)
			if _, e := Parse(s); (e == api.ErrLong) != (size > 65536) {
				t.Errorf("Parse of %d bytes, %.20q: error %d", size, s, e)
			}
		}
	}
	// The bytes that are handed in count, not those that are left as Lines.
	if _, e := Parse("<a>" + strings.Repeat("\r\n", 32768) + "</a>"); e != api.ErrLong {
		t.Errorf("Parse = error %d, want ErrLong", e)
	}
}

// pile is so many elements that are begun within each other.
func pile(deep int) string { return strings.Repeat("<a>", deep) }

func TestXm2Deep(t *testing.T) {
	for deep := 1; deep <= 20; deep++ {
		whole := pile(deep) + strings.Repeat("</a>", deep)
		if deep <= 16 {
			parses(t, whole, nest(deep))
			parses(t, pile(deep)+"x"+strings.Repeat("</a>", deep), nest(deep, "x"))
			refuses(t, pile(deep), api.ErrText)
		} else {
			refuses(t, whole, api.ErrDeep)
			refuses(t, pile(deep), api.ErrDeep)
		}
	}
	for _, s := range []string{"<b", "<b/>", "<b c", "<b c='", "<b c='&'/>", "<b é", "<b$", "<b<", "<b></c>", "<!----><?n?><b", "x<b", "<" + strings.Repeat("n", 64), "&amp;<![CDATA[]]><b", "<b></b></a>" + pile(20)} {
		refuses(t, pile(16)+s, api.ErrDeep)
	}
	for _, s := range []string{"<", "<0", "<é", "< b", "<!b", "<!DOCTYPE b>", "<![b", "</b", "</a", "&<b", "]]><b", "<!--<b", "<?<b>", "<" + strings.Repeat("n", 65), "<" + strings.Repeat("n", 65) + "/>", "<![CDATA[<b"} {
		refuses(t, pile(16)+s, api.ErrText)
	}
	// What is wrong first counts, and elements that were ended don't.
	refuses(t, "<a b='&'>"+pile(20), api.ErrText)
	refuses(t, "<a></b>"+pile(20), api.ErrText)
	refuses(t, pile(8)+"&"+pile(20), api.ErrText)
	refuses(t, "<a>"+pile(14)+strings.Repeat("</a>", 14)+pile(15)+"<b><", api.ErrDeep)
	refuses(t, "<a>"+pile(14)+strings.Repeat("</a>", 14)+pile(15)+"<", api.ErrText)
	parses(t, "<a>"+nested(15)+nested(15)+"</a>", elem("a", nest(15), nest(15)))
}

func nested(deep int) string { return pile(deep) + strings.Repeat("</a>", deep) }

func TestXm2NameLong(t *testing.T) {
	for size := 60; size <= 130; size++ {
		name := strings.Repeat("n", size)
		if size <= 64 {
			parses(t, "<"+name+"/>", elem(name))
			parses(t, "<"+name+"></"+name+">", elem(name))
			parses(t, "<a "+name+"='x'/>", elem("a", attr(name, "x")))
			continue
		}
		refuses(t, "<"+name+"/>", api.ErrText)
		refuses(t, "<"+name+"></"+name+">", api.ErrText)
		refuses(t, "<a "+name+"='x'/>", api.ErrText)
		refuses(t, "<a b='1' "+name+"='x'/>", api.ErrText)
	}
	name := strings.Repeat("n", 64)
	refuses(t, "<"+name+"></"+name+"n>", api.ErrText)
}

// full is a tree that is open, has so many nodes till now, and then what is handed in.
func full(nodes int, behind string) string {
	return "<a>" + strings.Repeat("<b/>", nodes-1) + behind
}

func TestXm2Many(t *testing.T) {
	for _, s := range []string{"", "<b/>", "<b></b>", "x", "<![CDATA[x]]>", "<b c='1'/>", "x<b/>", "<b>x</b>", "x<!---->y<?n?>z", "x<![CDATA[y]]>", "<b c='1' d='2' e='3'/>", "<![CDATA[]]>", "<!----><?n?>", "<b/>x<b/>", "<b/>x<b/>y<b/>"} {
		for nodes := 4091; nodes <= 4096; nodes++ {
			as(t, full(nodes, s+"</a>"))
		}
	}
	for _, c := range []struct {
		adds int // so many nodes
		s    string
	}{{0, ""}, {0, "<!----><?n?><![CDATA[]]>"}, {1, "<b/>"}, {1, "x"}, {1, "<![CDATA[x]]>"}, {1, "x<!---->y<![CDATA[z]]>"}, {2, "x<b/>"}, {2, "<b c=''/>"}, {2, "<b>x</b>"}, {3, "x<b/>y"}, {3, "<b c='' d=''/>"}, {4, "<b c=''>x<b/></b>"}} {
		if _, e := Parse(full(4096-c.adds, c.s+"</a>")); e != api.OK {
			t.Errorf("Parse of 4096 nodes, the last %q: error %d", c.s, e)
		}
		if _, e := Parse(full(4097-c.adds, c.s+"</a>")); e != api.ErrLong && c.adds > 0 {
			t.Errorf("Parse of 4097 nodes, the last %q: error %d, want ErrLong", c.s, e)
		}
	}
	many, _ := Print(elem("a", manyAttrs(4095)...))
	many = strings.TrimSuffix(many, "/>")
	if n, e := Parse(many + "/>"); e != api.OK || len(n.Attrs) != 4095 {
		t.Errorf("Parse of 4095 attributes: %d, error %d", len(n.Attrs), e)
	}
	for _, s := range []string{" m=''/>", " m=''", " m='' m=''/>", "m=''<", "/><", ">x<"} {
		as(t, many+s)
	}
}

// One that is too many is told behind the name, the value, the text: what is wrong up to there is told instead.
func TestXm2ManyOrder(t *testing.T) {
	for _, s := range []string{"<b", "<b/>", "<b$", "<b c='&'/>", "<b c", "<b</a>", "x<", "x<!--", "x</b>", "x<0", "]]&gt;<", "<![CDATA[x]]>", "<![CDATA[x]]>&", "<![CDATA[x]]><", "<![CDATA[]]>x<", "<!---->x<", "<?n?><b", "&lt;<&", "\r<", "<" + strings.Repeat("n", 64)} {
		refuses(t, full(4096, s), api.ErrLong)
	}
	for _, s := range []string{"", "<", "<0", "</b>", "</a", "x", "&<", "]]><", "x&<", "x]]>y<", "<![CDATA[x", "<![CDATA[x]]", "<![CDATA[]]>", "<!--", "<!-- -->", "<![CDATA[]]>&<", "&nbsp;<b/>", "<!DOCTYPE a>", "<" + strings.Repeat("n", 65), "x & y"} {
		refuses(t, full(4096, s), api.ErrText)
	}
	// An attribute is told behind its value, an element's name ahead of it.
	for _, s := range []string{"<b c=''", "<b c='1' d=&", "<b c='1'$", "<b c=\"x\" c='", "<b c='&lt;'/>", "<b c=''c=''", "<b\nc\t=\r'>'"} {
		refuses(t, full(4095, s), api.ErrLong)
	}
	for _, s := range []string{"<b c", "<b c=", "<b c='", "<b c='x", "<b c=x", "<b c='&'", "<b c='<'", "<b c='&nbsp;' d=''", "<b 0=''", "<b", "<b $", "<b " + strings.Repeat("n", 65) + "=''", "<b/"} {
		refuses(t, full(4095, s), api.ErrText)
	}
	// That an attribute is there already is told ahead, too.
	refuses(t, full(4094, "<b c='' c=''/>"), api.ErrText)
	refuses(t, full(4094, "<b c='' d=''/>"), api.ErrLong)
	refuses(t, full(4094, "<b c='' d='&'/>"), api.ErrText)
	// A text that goes on is none more; one that begins behind an element is.
	refuses(t, full(4095, "x<!---->y<?n?>z<![CDATA[]]>&<"), api.ErrText)
	refuses(t, full(4095, "x<!---->y<b"), api.ErrLong)
	refuses(t, full(4094, "x<b/>y<"), api.ErrLong)
	refuses(t, full(4094, "x<b/>y"), api.ErrText)
	refuses(t, full(4094, "x<b>y<"), api.ErrLong)
	// Too deep is named ahead of too many.
	deep := "<a>" + strings.Repeat("<b/>", 4096-16) + pile(15)
	refuses(t, deep+"<b", api.ErrDeep)
	refuses(t, deep+"x<b", api.ErrLong)
	refuses(t, "<a>"+strings.Repeat("<b/>", 4096-15)+pile(14)+"<b", api.ErrLong)
	refuses(t, "<a>"+strings.Repeat("<b/>", 4096-15)+pile(15)+"<b", api.ErrLong)
}

func TestXm2EveryByte(t *testing.T) {
	for c := range 256 {
		for _, frame := range []string{
			"%", "%<a/>", "<%a/>", "<%/>", "<a%/>", "<a/%>", "<a/>%", "<a%></a>", "<a>%</a>", "<a><%/a>", "<a></%a>", "<a></a%>", "<a></a>%", "<a>x%y</a>", "<a><b/>%<c/></a>", "<a b%='1'/>", "<a b=%'1'/>", "<a b='%'/>", "<a b='1'%/>", "<a b='1'%c='2'/>", "<a %='1'/>", "<a %b='1'/>", "<a b=%1%/>", "<a b=\"%\"/>",
			"<a><%b/></a>", "<a><!%[CDATA[x]]></a>", "<a><![CDATA[%]]></a>", "<a><![CDATA[x]]%></a>", "<a>&%lt;</a>", "<!-%- --><a/>", "<!--%--><a/>", "<!-- --%><a/>", "<!-- -%-><a/>", "<?%?><a/>", "<?n?%><a/>", "<%?n?><a/>", "<!DOCTYPE%", "<!%DOCTYPE a>", "<%!DOCTYPE a>", "<!DOC%TYPE a>", "<a>]]%></a>", "<a>]%]></a>", "<a><!%----></a>", "<a><?n%?></a>", "<a b='1'><%</a>",
		} {
			as(t, strings.ReplaceAll(frame, "%", string([]byte{byte(c)})))
		}
	}
}

func TestXm2Grown(t *testing.T) {
	f := func(s string) { as(t, s) }
	grown("", 5, []string{"<", ">", "/", "a", " ", "b='1'", "!--", "--"}, f)
	grown("", 5, []string{"<a>", "</a>", "<b/>", "x", "<!---->", "<![CDATA[y]]>", "<?n?>", "\n"}, f)
	grown("<a", 5, []string{" ", "b", "=", "'", "\"", "1", "/>", "<"}, f)
	grown("<a>", 5, []string{"<![CDATA[", "]]", ">", "&lt;", "x", "</a>", "<b>"}, f)
	grown("", 5, []string{"<!--", "-", ">", "<?", "?>", "<a/>", "<!DOCTYPE"}, f)
	grown("<a><b>", 5, []string{"</b>", "</a>", "<a>", "<c d=''>", "</c>", "x", "</", "\r"}, f)
}

func samples() []string {
	return []string{
		"<a/>", `<a b="1">x<c/></a>`, "<?xml version='1.0'?><!-- c --><a b='1' c=\"2\">x&lt;<![CDATA[<]]><d e = '&#9;'/>y</a >", "<!DOCTYPE a><a/>", "<a>\r\n<b>x</b>\r<c>y</c >\n</a>\n<!-- d -->",
		"<rss version=\"2.0\"><channel><title>T</title></channel></rss>", pile(15) + "<b/>x<b></b>" + strings.Repeat("</a>", 15), "<a>€<b é='x'/></a>",
	}
}

func TestXm2Changed(t *testing.T) {
	for _, s := range samples() {
		as(t, s)
		for i := range len(s) {
			as(t, s[:i])
			as(t, s[i:])
			as(t, s[:i]+s[i+1:])
			as(t, s[:i]+s[i:i+1]+s[i:])
			for _, c := range []byte("<>/ab=\"' \n\r\t!?-[]&;#0:.\x00\xff") {
				as(t, s[:i]+string([]byte{c})+s[i+1:])
				as(t, s[:i]+string([]byte{c})+s[i:])
			}
		}
	}
}

func TestXm2Mixed(t *testing.T) {
	chance := rand.New(rand.NewSource(13))
	parts := []string{"<a>", "</a>", "<b c='1'>", "</b>", "<d/>", "x", " ", "\r\n", "&lt;", "<!-- y -->", "<?n?>", "<![CDATA[<z>]]>", "<e f=\"'\" g='&#10;'/>", "]]", "€", ">", "&", "<", "]]>", "<!DOCTYPE a>", "'"}
	for range 40000 {
		var s strings.Builder
		few := len(parts) - chance.Intn(5) // most files are without the last ones, which are refused
		for range chance.Intn(12) {
			s.WriteString(parts[chance.Intn(few)])
		}
		as(t, s.String())
		as(t, "<a>"+s.String()+"</a>")
	}
}

// chanceTree is a tree that may be, by chance.
func chanceTree(chance *rand.Rand, deep int) api.Node {
	names := []string{"a", "b", "c:d", "_", "A.-9", "long" + strings.Repeat("-", 60)}
	texts := []string{"x", " ", "\n", "\t", "\r", "\r\n", "<", ">", "&", "\"", "'", "]]>", "&lt;", "<!--", "-->", "€", "\U0001F600", "\uFFFD", "?>", "<![CDATA["}
	words := func(size int) (s string) {
		for range size {
			s += texts[chance.Intn(len(texts))]
		}
		return s
	}
	n := api.Node{Name: names[chance.Intn(len(names))]}
	for _, i := range chance.Perm(len(names))[:chance.Intn(4)] {
		n.Attrs = append(n.Attrs, attr(names[i], words(chance.Intn(4))))
	}
	for range chance.Intn(5) {
		last := len(n.Kids) - 1
		if behindText := last >= 0 && n.Kids[last].Name == ""; !behindText && chance.Intn(2) == 0 {
			n.Kids = append(n.Kids, api.Node{Text: words(1 + chance.Intn(4))})
		} else if deep < 16 {
			n.Kids = append(n.Kids, chanceTree(chance, deep+1+chance.Intn(6)))
		}
	}
	return n
}

// readByLibrary is the tree that Go's library reads in what is put together.
func readByLibrary(s string) (api.Node, error) {
	d := stdxml.NewDecoder(strings.NewReader(s))
	full := func(n stdxml.Name) string {
		if n.Space != "" {
			return n.Space + ":" + n.Local
		}
		return n.Local
	}
	open := []api.Node{{}}
	for {
		token, err := d.RawToken()
		if err == io.EOF {
			return open[0].Kids[0], nil
		}
		if err != nil {
			return api.Node{}, err
		}
		top := len(open) - 1
		switch token := token.(type) {
		case stdxml.StartElement:
			n := api.Node{Name: full(token.Name)}
			for _, a := range token.Attr {
				n.Attrs = append(n.Attrs, attr(full(a.Name), a.Value))
			}
			open = append(open, n)
		case stdxml.EndElement:
			open[top-1].Kids = append(open[top-1].Kids, open[top])
			open = open[:top]
		case stdxml.CharData:
			open[top].Kids = append(open[top].Kids, api.Node{Text: string(token)})
		}
	}
}

func TestXm4Chance(t *testing.T) {
	chance := rand.New(rand.NewSource(4))
	for range 5000 {
		n := chanceTree(chance, 1)
		checks(t, n, api.OK)
		follows(t, n)
		s, e := Print(n)
		if e != api.OK {
			continue
		}
		if read, err := readByLibrary(s); err != nil || !same(read, n) {
			t.Errorf("Go's library reads %.200q as %.200q, %v", s, fmt.Sprint(read), err)
		}
	}
}

func TestXm4EveryRune(t *testing.T) {
	for r := range rune(0x110000) {
		if s := string(r); utf8.ValidRune(r) && !standsNot.MatchString(s) {
			n := elem("a", attr("b", s), s)
			written, e := Print(n)
			if back, e2 := Parse(written); e != api.OK || e2 != api.OK || !same(back, n) {
				t.Errorf("Parse of Print of U+%04X = %q, errors %d, %d", r, fmt.Sprint(back), e, e2)
			}
		}
	}
	for _, n := range []api.Node{nest(16, "x"), elem("a", many(4095)...), elem("a", manyAttrs(4095)...), elem("a", strings.Repeat("x", 65529)), elem("a", "]]>"), elem("a", attr("b", " \t\r\n"), " \t\r\n")} {
		follows(t, n)
	}
}

func TestXm3Text(t *testing.T) {
	for _, c := range []struct {
		n    api.Node
		want string
	}{
		{api.Node{}, ""}, {api.Node{Text: "x"}, "x"}, {elem("a"), ""}, {elem("a", "x"), "x"}, {elem("a", "x", elem("b"), "y"), "xy"}, {elem("a", "1", elem("b", "2", elem("c", "3"), "4"), "5", elem("d", "6")), "123456"},
		{elem("a", attr("b", "x")), ""}, {elem("a", attr("b", "x"), " ", elem("b", attr("c", "z"), "\n")), " \n"}, {elem("a", "<&>"), "<&>"},
		{elem("a", "x", "y"), "xy"}, {elem("a", ""), ""}, {elem("a", "\xff\x00"), "\xff\x00"}, {elem("0", "x"), "x"}, // what may not be, too
		{api.Node{Text: "x", Kids: []api.Node{{Text: "y"}}}, "x"}, {api.Node{Kids: []api.Node{{Text: "y"}}}, ""}, {elem("a", api.Node{Text: "x", Kids: []api.Node{{Text: "y"}}}, "z"), "xz"},
		{api.Node{Name: "a", Text: "x", Kids: []api.Node{{Text: "y"}}}, "y"}, {elem("b", api.Node{Name: "a", Text: "x"}), ""},
		{nest(100, "x", elem("b"), "y"), "xy"},
	} {
		if got := Text(c.n); got != c.want {
			t.Errorf("Text(%.100q) = %q, want %q", fmt.Sprint(c.n), got, c.want)
		}
	}
}

func TestXm3Find(t *testing.T) {
	n := elem("a", attr("b", "1"), "b", elem("b", "1"), "x", elem("c", elem("b", "2")), elem("b", attr("d", "3"), elem("e", attr("f", "4"), "y")), elem("B"), elem("bb"), elem("a"), elem("b:b"))
	for name, want := range map[string][]api.Node{
		"b": {n.Kids[1], n.Kids[4]}, "c": {n.Kids[3]}, "B": {n.Kids[5]}, "bb": {n.Kids[6]}, "a": {n.Kids[7]}, "b:b": {n.Kids[8]}, "": nil, "x": nil, "d": nil, "e": nil, "f": nil, "b ": nil, "\xff": nil,
	} {
		if got := Find(n, name); !same(api.Node{Kids: got}, api.Node{Kids: want}) {
			t.Errorf("Find(%q) = %.200q, want %.200q", name, fmt.Sprint(got), fmt.Sprint(want))
		}
	}
	if got := Find(api.Node{}, ""); len(got) != 0 {
		t.Errorf("Find in a node that is empty = %v", got)
	}
	if got := Find(elem("a", "x", "", api.Node{}), ""); len(got) != 0 {
		t.Errorf("Find of no name = %v", got)
	}
	if got := Find(elem("a", "x"), "a"); len(got) != 0 {
		t.Errorf("Find tells the node itself: %v", got)
	}
}

func TestXm3Attr(t *testing.T) {
	n := elem("a", attr("b", "1"), attr("c", ""), attr("b", "2"), attr("B", "3"), elem("d", attr("e", "4")), attr("f", "<\xff"))
	for name, want := range map[string]string{"b": "1", "c": "", "B": "3", "f": "<\xff"} {
		if got, ok := Attr(n, name); got != want || !ok {
			t.Errorf("Attr(%q) = %q, %v, want %q", name, got, ok, want)
		}
	}
	for _, name := range []string{"", "a", "d", "e", "C", "b ", "bb", "\xff"} {
		if got, ok := Attr(n, name); got != "" || ok {
			t.Errorf("Attr(%q) = %q, %v, want none", name, got, ok)
		}
	}
	if got, ok := Attr(api.Node{}, "b"); got != "" || ok {
		t.Errorf("Attr of an empty node = %q, %v", got, ok)
	}
}

// A span is memory that a list or a text lies in.
type span struct{ from, to uintptr }

// spans is where a list of nodes and all lists in it lie, their spare room too, and where their texts do.
func spans(nodes []api.Node) (lists, texts []span) {
	size := unsafe.Sizeof(api.Node{})
	if cap(nodes) > 0 {
		at := uintptr(unsafe.Pointer(unsafe.SliceData(nodes)))
		lists = append(lists, span{at, at + uintptr(cap(nodes))*size})
	}
	for _, n := range nodes {
		texts = append(texts, spanOf(n.Name), spanOf(n.Text))
		for _, a := range n.Attrs {
			texts = append(texts, spanOf(a.Name), spanOf(a.Value))
		}
		if cap(n.Attrs) > 0 {
			at := uintptr(unsafe.Pointer(unsafe.SliceData(n.Attrs)))
			lists = append(lists, span{at, at + uintptr(cap(n.Attrs))*unsafe.Sizeof(api.Header{})})
		}
		more, moreTexts := spans(n.Kids)
		lists, texts = append(lists, more...), append(texts, moreTexts...)
	}
	return lists, texts
}

func spanOf(s string) span {
	at := uintptr(unsafe.Pointer(unsafe.StringData(s)))
	return span{at, at + uintptr(len(s))}
}

func apart(x, y span) bool {
	return x.from >= y.to || y.from >= x.to || x.from == x.to || y.from == y.to
}

// fresh holds that what is answered shares no memory with what was handed in, and no two lists of it any.
func fresh(t *testing.T, answer []api.Node, given []api.Node, texts ...string) {
	t.Helper()
	lists, words := spans(answer)
	givenLists, givenWords := spans(given)
	for _, s := range texts {
		givenWords = append(givenWords, spanOf(s))
	}
	for i, x := range lists {
		for _, y := range append(append([]span{}, lists[:i]...), givenLists...) {
			if !apart(x, y) {
				t.Errorf("a list of %.100q shares memory", fmt.Sprint(answer))
			}
		}
	}
	for _, x := range words {
		for _, y := range givenWords {
			if !apart(x, y) {
				t.Errorf("a text of %.100q shares memory", fmt.Sprint(answer))
			}
		}
	}
}

// rebuilt is a node that shares nothing, with room behind its lists that is filled.
func rebuilt(n api.Node) api.Node {
	m := api.Node{Name: strings.Clone(n.Name), Text: strings.Clone(n.Text)}
	for _, a := range n.Attrs {
		m.Attrs = append(m.Attrs, attr(strings.Clone(a.Name), strings.Clone(a.Value)))
	}
	for _, kid := range n.Kids {
		m.Kids = append(m.Kids, rebuilt(kid))
	}
	m.Attrs = append(m.Attrs, attr("behind", "behind"))[:len(m.Attrs)]
	m.Kids = append(m.Kids, elem("behind"))[:len(m.Kids)]
	return m
}

func TestR3Apart(t *testing.T) {
	n := rebuilt(elem("a", attr("b", "1"), attr("b2", "2"), "some text", elem("b", attr("c", "3"), "more", elem("d", attr("e", "4"), "text"), elem("d")), elem("c"), elem("b", elem("b", "z"))))
	kept := rebuilt(n)
	found := Find(n, "b")
	fresh(t, found, []api.Node{n})
	value, _ := Attr(n, "b2")
	written, _ := Print(n)
	words := Text(n)
	one := api.Node{Text: strings.Clone("alone")}
	texts := []api.Node{{Name: value, Text: written}, {Text: words}, {Text: Text(one)}, {Text: Text(elem("a", one))}}
	fresh(t, texts, []api.Node{n, one})
	if !reflect.DeepEqual(n, kept) || !reflect.DeepEqual(n.Kids[:len(n.Kids)+1], kept.Kids[:len(n.Kids)+1]) {
		t.Errorf("what was handed in was turned to %v", n)
	}
	found[0].Kids[1].Attrs[0].Value = "turned"
	_ = append(found[0].Kids[1].Attrs, attr("x", "y"))
	_ = append(found[1].Kids, elem("x"))
	if !reflect.DeepEqual(n, kept) {
		t.Errorf("what is done to the answer turns what was handed in: %v", n)
	}
	for _, s := range append(samples(), written, "<abc def='ghi'>jkl<mno/><![CDATA[pqr]]></abc>", "<a><![CDATA[x]]></a>") {
		s = strings.Clone(s)
		tree, e := Parse(s)
		if e != api.OK {
			continue
		}
		fresh(t, []api.Node{tree}, nil, s)
	}
}

// The lists of two nodes may be one: no answer shares it.
func TestR3Shared(t *testing.T) {
	kids := []api.Node{elem("c", attr("d", "1"), "x")}
	attrs := []api.Header{attr("e", "2")}
	n := api.Node{Name: "a", Kids: []api.Node{{Name: "b", Attrs: attrs, Kids: kids}, {Name: "b", Attrs: attrs, Kids: kids}}}
	checks(t, n, api.OK)
	follows(t, n)
	fresh(t, Find(n, "b"), []api.Node{n})
}

// Trees that are deeper, wider and longer than may be are gone through, too, and no call piles up calls.
func TestR1Large(t *testing.T) {
	const size = 1 << 18
	defer debug.SetMaxStack(debug.SetMaxStack(64 * size))
	deep := elem("a", "x")
	for range size {
		deep = api.Node{Name: "a", Kids: []api.Node{deep}}
	}
	if e := Check(deep); e != api.ErrDeep {
		t.Errorf("Check of what is very deep: error %d", e)
	}
	if s, e := Print(deep); s != "" || e != api.ErrDeep {
		t.Errorf("Print of what is very deep: error %d", e)
	}
	if s := Text(deep); s != "x" {
		t.Errorf("Text of what is very deep: %.20q", s)
	}
	if found := Find(deep, "a"); len(found) != 1 || Text(found[0]) != "x" {
		t.Errorf("Find in what is very deep: %d", len(found))
	}
	wide := elem("a", many(size)...)
	if e := Check(wide); e != api.ErrLong {
		t.Errorf("Check of what is very wide: error %d", e)
	}
	if len(Find(wide, "b")) != size/2 || len(Text(wide)) != size/2 {
		t.Error("Find and Text of what is very wide")
	}
	attrs := elem("a", manyAttrs(size)...)
	if e := Check(attrs); e != api.ErrLong {
		t.Errorf("Check of very many attributes: error %d", e)
	}
	long := elem("a", strings.Repeat("<", 64*size))
	if s, e := Print(long); s != "" || e != api.ErrLong {
		t.Errorf("Print of a very long text: error %d", e)
	}
}

// Files that are as long as may be are read in a moment.
func TestR1LongFiles(t *testing.T) {
	for _, piece := range []string{"<", ">", "<a", "<a>", "<a ", "<a b='", "<!--", "<!---->", "<?", "<??>", "<![CDATA[", "<![CDATA[]]>", "<![CDATA[x]]>", "x<!---->", "x<??>", "x", "&", "&lt;", "]]>", "]]", " ", " a=''", "\r", "</", "</a>", "-", "a", "<!DOCTYPE ", "<a/>"} {
		for _, head := range []string{"", "<a>", "<a ", "<a b='", "<!--", "<?", "<a><![CDATA[", "<a><!--"} {
			s := head + strings.Repeat(piece, (65536-len(head))/len(piece))
			Parse(s)
			as(t, s[:min(len(s), 3000)])
			Parse(s[:len(s)-8] + "</a>")
		}
	}
}
