package feed

import (
	"crypto/sha256"
	"fmt"
	"math/rand"
	"reflect"
	"regexp"
	"strconv"
	"strings"
	"testing"
	"unicode/utf8"

	"lantern/api"
	"lantern/date"
	"lantern/xml"
)

// What this file reads texts by.
var (
	someWhite  = regexp.MustCompile(`[ \t\n\r]+`)
	firstRunes = regexp.MustCompile(`\A(?s:.{0,128})`)
)

// shortAs is what Short is to tell, by this file's patterns.
func shortAs(s string) string {
	if !utf8.ValidString(s) {
		return ""
	}
	return firstRunes.FindString(strings.Trim(someWhite.ReplaceAllString(s, " "), " "))
}

// idAs is what Id is to tell, by the library's digest.
func idAs(name, title, body string) string {
	if name != "" {
		return fmt.Sprintf("n:%x", sha256.Sum256([]byte(name)))
	}
	return fmt.Sprintf("c:%x", sha256.Sum256([]byte(title+string(rune(0))+body)))
}

// wordsIn are all texts within a node, in order.
func wordsIn(n api.Node) string {
	s := n.Text
	for _, kid := range n.Kids {
		s += wordsIn(kid)
	}
	return s
}

// kidWords are those of the first kid that is an element of that name.
func kidWords(n api.Node, name string) string {
	for _, kid := range n.Kids {
		if kid.Name == name {
			return wordsIn(kid)
		}
	}
	return ""
}

// hrefOf is what the first kid `link` leads to that is not about something else.
func hrefOf(n api.Node) string {
	for _, kid := range n.Kids {
		if kid.Name != "link" {
			continue
		}
		attrs := map[string]string{"rel": "alternate"}
		for _, a := range kid.Attrs {
			attrs[a.Name] = a.Value
		}
		if attrs["rel"] == "alternate" {
			return attrs["href"]
		}
	}
	return ""
}

// readAs is what Read is to tell of a tree that may be, by this file's own walks.
func readAs(n api.Node) (api.Feed, api.Errno) {
	isAtom, kind := n.Name == "feed", "entry"
	if n.Name == "rss" {
		kind = "item"
		for _, kid := range n.Kids {
			if kid.Name == "channel" {
				return feedAs(kid, kind, isAtom), api.OK
			}
		}
	}
	if !isAtom {
		return api.Feed{}, api.ErrText
	}
	return feedAs(n, kind, isAtom), api.OK
}

func feedAs(n api.Node, kind string, isAtom bool) api.Feed {
	f := api.Feed{Title: shortAs(kidWords(n, "title")), Link: shortAs(kidWords(n, "link"))}
	if isAtom {
		f.Link = shortAs(hrefOf(n))
	}
	told := map[string]bool{}
	for _, kid := range n.Kids {
		if kid.Name != kind {
			continue
		}
		e := entryAs(kid, isAtom)
		if !told[e.Id] && len(told) < 16 {
			told[e.Id] = true
			f.Entries = append(f.Entries, e)
		}
	}
	return f
}

func entryAs(n api.Node, isAtom bool) api.Entry {
	e := api.Entry{Title: shortAs(kidWords(n, "title")), Link: shortAs(kidWords(n, "link")), Body: shortAs(kidWords(n, "description"))}
	name, times := kidWords(n, "guid"), []string{kidWords(n, "pubDate")}
	if isAtom {
		e.Link, e.Body = shortAs(hrefOf(n)), shortAs(kidWords(n, "summary"))
		if e.Body == "" {
			e.Body = shortAs(kidWords(n, "content"))
		}
		name, times = kidWords(n, "id"), []string{kidWords(n, "updated"), kidWords(n, "published")}
	}
	for i := len(times) - 1; i >= 0; i-- {
		if at, errno := date.Any(times[i]); errno == api.OK {
			e.Time, e.Dated = at, true
		}
	}
	if name = strings.Trim(name, " \t\n\r"); name == "" {
		name = e.Link
	}
	e.Id = idAs(name, e.Title, e.Body)
	return e
}

// sameFeed tells whether two are alike: a list that is nil is an empty one.
func sameFeed(x, y api.Feed) bool {
	return x.Title == y.Title && x.Link == y.Link && sameEntries(x.Entries, y.Entries)
}

func sameEntries(x, y []api.Entry) bool {
	return len(x) == 0 && len(y) == 0 || reflect.DeepEqual(x, y)
}

// parses holds what Parse, Read and this file's walks tell of a file against the feed that they are to tell.
func parses(t *testing.T, s string, want api.Feed) {
	t.Helper()
	if got, e := Parse([]byte(s)); !sameFeed(got, want) || e != api.OK {
		t.Errorf("Parse(%.300q) = %+v, error %d, want %+v", s, got, e, want)
	}
	n, e := xml.Parse(s)
	if e != api.OK {
		t.Fatalf("%.300q is no file: error %d", s, e)
	}
	if got, e := Read(n); !sameFeed(got, want) || e != api.OK {
		t.Errorf("Read of %.300q = %+v, error %d, want %+v", s, got, e, want)
	}
	if got, e := readAs(n); !sameFeed(got, want) || e != api.OK {
		t.Errorf("this file's walks make %+v of %.300q, error %d, want %+v", got, s, e, want)
	}
}

// parsesOne holds likewise what the only entry of a file is.
func parsesOne(t *testing.T, s string, want api.Entry) {
	t.Helper()
	f, e := Parse([]byte(s))
	if e != api.OK || len(f.Entries) != 1 || f.Entries[0] != want {
		t.Errorf("Parse(%.300q) = %+v, error %d, want the entry %+v", s, f, e, want)
	}
	as(t, s)
}

func refuses(t *testing.T, s string, errno api.Errno) {
	t.Helper()
	if got, e := Parse([]byte(s)); !reflect.DeepEqual(got, api.Feed{}) || e != errno {
		t.Errorf("Parse(%.100q) = %+v, error %d, want error %d", s, got, e, errno)
	}
}

// as holds what Parse tells of a file against what layer 13 and this file's walks make of it.
func as(t *testing.T, s string) {
	t.Helper()
	var want api.Feed
	n, errno := xml.Parse(s)
	if errno == api.OK {
		readsAs(t, n)
		want, errno = readAs(n)
	}
	if got, e := Parse([]byte(s)); !sameFeed(got, want) || e != errno {
		t.Errorf("Parse(%.300q) = %+v, error %d, want %+v, error %d", s, got, e, want, errno)
	}
}

// readsAs holds what Read tells of a tree against what this file's walks make of it.
func readsAs(t *testing.T, n api.Node) {
	t.Helper()
	var want api.Feed
	errno := api.ErrArg
	if xml.Check(n) == api.OK {
		want, errno = readAs(n)
	}
	if got, e := Read(n); !sameFeed(got, want) || e != errno {
		t.Errorf("Read(%.300q) = %+v, error %d, want %+v, error %d", fmt.Sprint(n), got, e, want, errno)
	}
}

func readRefuses(t *testing.T, n api.Node, errno api.Errno) {
	t.Helper()
	if got, e := Read(n); !reflect.DeepEqual(got, api.Feed{}) || e != errno {
		t.Errorf("Read(%.100q) = %+v, error %d, want error %d", fmt.Sprint(n), got, e, errno)
	}
}

// named is an entry that gives itself that name and says nothing else.
func named(name string) api.Entry { return api.Entry{Id: idAs(name, "", "")} }

// A form is a kind of feed: what stands around its entries, and what they and their names are called.
type form struct{ head, tail, entry, name string }

func forms() []form {
	return []form{
		{"<rss><channel>", "</channel></rss>", "item", "guid"},
		{"<feed>", "</feed>", "entry", "id"},
	}
}

// of is a feed of entries that have these kids.
func (f form) of(entries ...string) string {
	s := f.head
	for _, kids := range entries {
		s += "<" + f.entry + ">" + kids + "</" + f.entry + ">"
	}
	return s + f.tail
}

// names are an entry's kids, by which it gives itself that name.
func (f form) names(name string) string {
	return "<" + f.name + ">" + name + "</" + f.name + ">"
}

func TestFe1Example(t *testing.T) {
	const digestOfX = "2d711642b726b04401627ca9fbac32f5c8530fb1903cc4db02258717921a4881"
	parses(t, "<rss><channel><item><guid> x </guid></item></channel></rss>", api.Feed{Entries: []api.Entry{{Id: "n:" + digestOfX}}})
}

func TestFe1Short(t *testing.T) {
	long := strings.Repeat("a", 128)
	for s, want := range map[string]string{
		"": "", " ": "", " \t\r\n": "", "a": "a", " a ": "a", "a b": "a b", "\t a\n\r\nb  \t c\n": "a b c", "A": "A",
		long: long, long + "b": long, " " + long + " ": long, long[1:]: long[1:], long[1:] + " b": long[1:] + " ", long[1:] + "  ": long[1:], long[2:] + "   b c": long[2:] + " b", long + " b": long,
		// Runes count, not bytes.
		strings.Repeat("€", 128): strings.Repeat("€", 128), strings.Repeat("€", 129): strings.Repeat("€", 128), strings.Repeat("𝄞", 200): strings.Repeat("𝄞", 128), long[1:] + "€€": long[1:] + "€",
		// White are four runes; others stay.
		"a\u00a0 \u00a0b": "a\u00a0 \u00a0b", "a\u2003\u2003b": "a\u2003\u2003b", "\v\f": "\v\f", "a\u0085b": "a\u0085b", "\x00": "\x00", "e\u0301": "e\u0301", "\ufffd": "\ufffd", "\ufeff a": "\ufeff a",
		// What is not UTF-8 has none, wherever it is not.
		"\xff": "", "a\xff": "", "a \xc3": "", "\xed\xa0\x80": "", "\xc0\x80": "", "\xf4\x90\x80\x80": "", long + "\xff": "", long + long + " \x80": "",
		"<b> x </b>": "<b> x </b>", "&amp;": "&amp;",
		strings.Repeat(" a", 100): strings.Repeat("a ", 64), strings.Repeat("\n", 1000) + "a": "a", strings.Repeat("a", 1<<20): long,
	} {
		if got := Short(s); got != want {
			t.Errorf("Short(%.300q) = %q, want %q", s, got, want)
		}
		if got := shortAs(s); got != want {
			t.Errorf("this file's patterns make %q of %.300q, want %q", got, s, want)
		}
	}
}

// TestFe1ShortChance: texts of some 128 runes, of bytes that meet each other in all ways.
func TestFe1ShortChance(t *testing.T) {
	chance := rand.New(rand.NewSource(15))
	parts := []string{"a", "b", " ", "  ", "\t", "\n", "\r", "€", "𝄞", "\u00a0", "aaaaaaaa", "a b c d "}
	for range 20000 {
		s := ""
		for n := chance.Intn(80); n > 0; n-- {
			s += parts[chance.Intn(len(parts))]
		}
		if chance.Intn(20) == 0 {
			at := chance.Intn(len(s) + 1)
			s = s[:at] + string([]byte{byte(chance.Intn(256))}) + s[at:]
		}
		if got, want := Short(s), shortAs(s); got != want {
			t.Fatalf("Short(%q) = %q, want %q", s, got, want)
		}
	}
}

func TestFe1Id(t *testing.T) {
	for _, c := range []struct{ name, title, body, want string }{
		{"x", "", "", "n:2d711642b726b04401627ca9fbac32f5c8530fb1903cc4db02258717921a4881"},
		{"x", "t", "b", "n:2d711642b726b04401627ca9fbac32f5c8530fb1903cc4db02258717921a4881"},
		{"abc", "", "", "n:ba7816bf8f01cfea414140de5dae2223b00361a396177a9cb410ff61f20015ad"},
		// The digest of a byte 0 alone.
		{"", "", "", "c:6e340b9cffb37a989ca544e6bb780a2c78901d3fb33738768511a30617afa01d"},
		// What is a name by itself is taken as it is.
		{" ", "", "", idAs(" ", "", "")}, {" x ", "", "", idAs(" x ", "", "")}, {"\x00", "", "", "n:6e340b9cffb37a989ca544e6bb780a2c78901d3fb33738768511a30617afa01d"}, {"\xff", "t", "", idAs("\xff", "", "")},
		{"", "t", "b", idAs("", "t", "b")}, {"", " t ", "\n", idAs("", " t ", "\n")}, {"", "\xff", "\xfe", idAs("", "\xff", "\xfe")}, {strings.Repeat("€", 500), "", "", idAs(strings.Repeat("€", 500), "", "")},
		{"", strings.Repeat("t", 500), strings.Repeat("b", 500), idAs("", strings.Repeat("t", 500), strings.Repeat("b", 500))},
	} {
		if got := Id(c.name, c.title, c.body); got != c.want {
			t.Errorf("Id(%.100q, %.100q, %.100q) = %q, want %q", c.name, c.title, c.body, got, c.want)
		}
		if got := idAs(c.name, c.title, c.body); got != c.want {
			t.Errorf("the library makes %q of %.100q, %.100q, %.100q, want %q", got, c.name, c.title, c.body, c.want)
		}
	}
}

// TestFe1IdsUnlike: where a title ends is seen, and whether there is a name; where there is one, nothing else.
func TestFe1IdsUnlike(t *testing.T) {
	seen := map[string][3]string{}
	parts := []string{"", "a", "b", "ab", " "}
	for _, name := range parts {
		for _, title := range parts {
			for _, body := range parts {
				key := [3]string{name}
				if name == "" {
					key = [3]string{"", title, body}
				}
				id := Id(name, title, body)
				if other, twice := seen[id]; twice && other != key {
					t.Errorf("%q and %q have one Id", other, key)
				}
				seen[id] = key
			}
		}
	}
	if want := 4 + 5*5; len(seen) != want {
		t.Errorf("%d Ids, want %d", len(seen), want)
	}
}

func TestFe1Rss(t *testing.T) {
	parses(t, `<?xml version="1.0"?>
<rss version="2.0" xmlns:atom="http://www.w3.org/2005/Atom"><channel>
	<title> All
	the news </title>
	<link>http://a/ </link>
	<atom:link rel="self" href="http://a/feed"/>
	<description>not of the feed</description>
	<pubDate>Thu, 01 Jan 1970 00:00:07 GMT</pubDate>
	<item>
		<title>One &amp; <![CDATA[<b>two</b>]]></title>
		<link>http://a/1</link>
		<description>The <b>first</b>
			one</description>
		<guid isPermaLink="false"> tag:1
		</guid>
		<pubDate> Thu, 01 Jan 1970 00:00:09 GMT </pubDate>
	</item>
	<!-- no item --><other><item><title>nor this</title></item></other>
	<item/>
	<item><link>http://a/2</link><pubDate>never</pubDate></item>
</channel></rss>`, api.Feed{
		Title: "All the news", Link: "http://a/",
		Entries: []api.Entry{
			{Id: idAs("tag:1", "", ""), Title: "One & <b>two</b>", Link: "http://a/1", Body: "The first one", Time: 9, Dated: true},
			{Id: idAs("", "", "")},
			{Id: idAs("http://a/2", "", ""), Link: "http://a/2"},
		},
	})
	for s, want := range map[string]api.Feed{
		"<rss><channel/></rss>":                                    {},
		"<rss>x<channel/>y</rss>":                                  {},
		"<rss><x/><channel><title>t</title></channel></rss>":       {Title: "t"},
		"<rss><channel/><channel><title>t</title></channel></rss>": {},
		"<rss><channel><title>1</title></channel><channel><title>2</title><link>2</link><item/></channel></rss>": {Title: "1"},
		// The channel's alone, and the first of each name.
		"<rss><title>0</title><link>0</link><item/><channel><title>1</title><title>2</title><link>3</link><link>4</link></channel></rss>": {Title: "1", Link: "3"},
		"<rss><channel><title/><title>2</title></channel></rss>":                                                                          {},
		"<rss><channel><image><title>1</title><link>2</link></image></channel></rss>":                                                     {},
		"<rss><channel><image><title>1</title></image><title>2</title></channel></rss>":                                                   {Title: "2"},
		// Names are by bytes; signs of Atom say nothing.
		"<rss><channel><Title>1</Title><LINK>2</LINK><x:title>3</x:title><Item/><x:item/><entry/></channel></rss>": {},
		"<rss><channel><link href='h'/></channel></rss>":                                                           {},
		"<rss><channel><link href='h'>x</link></channel></rss>":                                                    {Link: "x"},
		"<rss><channel><title>1<title>2</title>3</title></channel></rss>":                                          {Title: "123"},
		"<rss><channel><title>" + strings.Repeat("x", 200) + "</title></channel></rss>":                            {Title: strings.Repeat("x", 128)},
		"<rss><channel><link>" + strings.Repeat("x", 200) + "</link></channel></rss>":                              {Link: strings.Repeat("x", 128)},
	} {
		parses(t, s, want)
	}
}

func TestFe1RssEntry(t *testing.T) {
	long := strings.Repeat("x", 200)
	for kids, want := range map[string]api.Entry{
		"":                                  {Id: idAs("", "", "")},
		"x":                                 {Id: idAs("", "", "")},
		"<title> 1\n2 </title>":             {Id: idAs("", "1 2", ""), Title: "1 2"},
		"<description> 1\n2 </description>": {Id: idAs("", "", "1 2"), Body: "1 2"},
		"<title>1</title><description>2</description>":                             {Id: idAs("", "1", "2"), Title: "1", Body: "2"},
		"<description>2</description><title>1</title>":                             {Id: idAs("", "1", "2"), Title: "1", Body: "2"},
		"<link> 1\n2 </link>":                                                      {Id: idAs("1 2", "", ""), Link: "1 2"},
		"<title>1</title><link>2</link><description>3</description><guid>4</guid>": {Id: idAs("4", "", ""), Title: "1", Link: "2", Body: "3"},
		"<title>1</title><link>2</link><description>3</description>":               {Id: idAs("2", "", ""), Title: "1", Link: "2", Body: "3"},
		// The first of each name, though it be empty.
		"<guid/><guid>1</guid>":                                       {Id: idAs("", "", "")},
		"<title/><title>1</title>":                                    {Id: idAs("", "", "")},
		"<title>1</title><title>2</title>":                            {Id: idAs("", "1", ""), Title: "1"},
		"<link>1</link><link>2</link>":                                {Id: idAs("1", "", ""), Link: "1"},
		"<description>1</description><description>2</description>":    {Id: idAs("", "", "1"), Body: "1"},
		"<guid>1</guid><guid>2</guid>":                                {Id: idAs("1", "", "")},
		"<pubDate>x</pubDate><pubDate>1970-01-01T00:00:01Z</pubDate>": {Id: idAs("", "", "")},
		// All texts within, and no kid's kid.
		"<guid>1<b>2</b><![CDATA[3]]></guid>":                 {Id: idAs("123", "", "")},
		"<title><b>1</b>\n<i>2</i></title>":                   {Id: idAs("", "1 2", ""), Title: "1 2"},
		"<a><title>1</title><link>2</link><guid>3</guid></a>": {Id: idAs("", "", "")},
		"<pubDate>1970-01-01<b>T00:00:01</b>Z</pubDate>":      {Id: idAs("", "", ""), Time: 1, Dated: true},
		"<item><title>1</title></item>":                       {Id: idAs("", "", "")},
		// Names of Atom say nothing.
		"<id>1</id><summary>2</summary><content>3</content><updated>1970-01-01T00:00:01Z</updated><published>1970-01-01T00:00:01Z</published><link href='4'/>": {Id: idAs("", "", "")},
		"<Title>1</Title><GUID>2</GUID><pubdate>1970-01-01T00:00:01Z</pubdate><x:link>3</x:link>":                                                              {Id: idAs("", "", "")},
		// Short are all but the name.
		"<title>" + long + "</title>":             {Id: idAs("", long[:128], ""), Title: long[:128]},
		"<description>" + long + "</description>": {Id: idAs("", "", long[:128]), Body: long[:128]},
		"<link>" + long + "</link>":               {Id: idAs(long[:128], "", ""), Link: long[:128]},
		"<guid>" + long + "</guid>":               {Id: idAs(long, "", "")},
	} {
		parsesOne(t, forms()[0].of(kids), want)
	}
}

func TestFe1Atom(t *testing.T) {
	parses(t, `<?xml version="1.0" encoding="utf-8"?>
<feed xmlns="http://www.w3.org/2005/Atom">
	<title type="text"> All
	the news </title>
	<link rel="self" href="http://a/feed"/>
	<link rel="alternate" href=" http://a/ "/>
	<link href="http://b/"/>
	<id>of:the:feed</id>
	<updated>1970-01-01T00:00:07Z</updated>
	<entry>
		<title>One &amp; <![CDATA[<b>two</b>]]></title>
		<link rel="edit" href="http://a/edit"/><link href="http://a/1"/>
		<summary>The <b>first</b>
			one</summary>
		<content>not this</content>
		<id> tag:1
		</id>
		<updated>1970-01-01T00:00:09Z</updated><published>1970-01-01T00:00:08Z</published>
	</entry>
	<!-- no entry --><other><entry><title>nor this</title></entry></other>
	<entry/>
	<entry><link href="http://a/2"/><content>two</content><updated>never</updated></entry>
</feed>`, api.Feed{
		Title: "All the news", Link: "http://a/",
		Entries: []api.Entry{
			{Id: idAs("tag:1", "", ""), Title: "One & <b>two</b>", Link: "http://a/1", Body: "The first one", Time: 9, Dated: true},
			{Id: idAs("", "", "")},
			{Id: idAs("http://a/2", "", ""), Link: "http://a/2", Body: "two"},
		},
	})
	for s, want := range map[string]api.Feed{
		"<feed/>":                  {},
		"<feed>x</feed>":           {},
		"<feed a='b'>x<y/></feed>": {},
		"<feed><title>1</title><title>2</title></feed>":                                          {Title: "1"},
		"<feed><title/><title>2</title></feed>":                                                  {},
		"<feed><title>1<b>2</b></title></feed>":                                                  {Title: "12"},
		"<feed><Title>1</Title><x:title>2</x:title><Entry/><x:entry/><item/></feed>":             {},
		"<feed><channel><title>1</title><item/></channel></feed>":                                {},
		"<feed><author><title>1</title><link href='2'/></author></feed>":                         {},
		"<feed><title>" + strings.Repeat("x", 200) + "</title></feed>":                           {Title: strings.Repeat("x", 128)},
		"<feed><link href='" + strings.Repeat("x", 200) + "'/></feed>":                           {Link: strings.Repeat("x", 128)},
		"<feed title='1' link='2' href='3'/>":                                                    {},
		"<feed><feed><title>1</title><entry/></feed></feed>":                                     {},
		"<feed><link href='1'/><entry><link href='2'/><id>3</id></entry><title>4</title></feed>": {Title: "4", Link: "1", Entries: []api.Entry{{Id: idAs("3", "", ""), Link: "2"}}},
	} {
		parses(t, s, want)
	}
}

// TestFe1AtomLink: of a feed and of an entry alike.
func TestFe1AtomLink(t *testing.T) {
	for kids, want := range map[string]string{
		"": "", "<link/>": "", "<link>x</link>": "", "<link href='1'>x</link>": "1", "<link href=' 1&#10;&#9;2 '/>": "1 2",
		"<link href='1'/><link href='2'/>": "1", "<link rel='alternate' href='1'/><link href='2'/>": "1", "<link href='1'/><link rel='alternate' href='2'/>": "1",
		"<link rel='self' href='1'/>": "", "<link rel='self' href='1'/><link href='2'/>": "2", "<link rel='self' href='1'/><link rel='edit' href='2'/><link href='3' rel='alternate'/><link href='4'/>": "3",
		// The first that may be, though it leads nowhere.
		"<link/><link href='2'/>": "", "<link href=''/><link href='2'/>": "", "<link rel='alternate'/><link href='2'/>": "", "<link HREF='1'/><link href='2'/>": "", "<link x:href='1'/><link href='2'/>": "",
		// What rel says is by bytes, and one that says nothing says no alternate.
		"<link rel='' href='1'/>": "", "<link rel='Alternate' href='1'/>": "", "<link rel=' alternate' href='1'/>": "", "<link rel='alternate ' href='1'/>": "", "<link rel='alternate self' href='1'/>": "", "<link rel='alternat' href='1'/>": "", "<link rel='' href='1'/><link href='2'/>": "2",
		"<link REL='self' href='1'/>": "1", "<link x:rel='self' href='1'/>": "1", "<link type='self' href='1'/>": "1",
		"<Link href='1'/>": "", "<x:link href='1'/>": "", "<a><link href='1'/></a>": "", "<a><link href='1'/></a><link href='2'/>": "2",
	} {
		parses(t, "<feed>"+kids+"</feed>", api.Feed{Link: want})
		parsesOne(t, forms()[1].of(kids), api.Entry{Id: idAs(want, "", ""), Link: want})
	}
}

func TestFe1AtomEntry(t *testing.T) {
	long := strings.Repeat("x", 200)
	for kids, want := range map[string]api.Entry{
		"":                          {Id: idAs("", "", "")},
		"x":                         {Id: idAs("", "", "")},
		"<title> 1\n2 </title>":     {Id: idAs("", "1 2", ""), Title: "1 2"},
		"<summary> 1\n2 </summary>": {Id: idAs("", "", "1 2"), Body: "1 2"},
		"<content> 1\n2 </content>": {Id: idAs("", "", "1 2"), Body: "1 2"},
		// The one, if it says anything; else the other.
		"<summary>1</summary><content>2</content>":                       {Id: idAs("", "", "1"), Body: "1"},
		"<content>2</content><summary>1</summary>":                       {Id: idAs("", "", "1"), Body: "1"},
		"<summary/><content>2</content>":                                 {Id: idAs("", "", "2"), Body: "2"},
		"<summary> \n </summary><content>2</content>":                    {Id: idAs("", "", "2"), Body: "2"},
		"<summary><b/></summary><content>2</content>":                    {Id: idAs("", "", "2"), Body: "2"},
		"<summary/><summary>1</summary><content>2</content>":             {Id: idAs("", "", "2"), Body: "2"},
		"<summary/><content/><content>2</content>":                       {Id: idAs("", "", "")},
		"<summary>0</summary><content>2</content>":                       {Id: idAs("", "", "0"), Body: "0"},
		"<title>1</title><link href='2'/><summary>3</summary><id>4</id>": {Id: idAs("4", "", ""), Title: "1", Link: "2", Body: "3"},
		"<title>1</title><link href='2'/><summary>3</summary>":           {Id: idAs("2", "", ""), Title: "1", Link: "2", Body: "3"},
		"<title>1</title><summary>3</summary>":                           {Id: idAs("", "1", "3"), Title: "1", Body: "3"},
		"<title>1</title><content>3</content>":                           {Id: idAs("", "1", "3"), Title: "1", Body: "3"},
		"<id/><id>1</id>":                                                {Id: idAs("", "", "")},
		"<id>1</id><id>2</id>":                                           {Id: idAs("1", "", "")},
		"<title>1</title><title>2</title>":                               {Id: idAs("", "1", ""), Title: "1"},
		"<id>1<b>2</b><![CDATA[3]]></id>":                                {Id: idAs("123", "", "")},
		"<content type='xhtml'><div><p>1</p>\n<p>2</p></div></content>":  {Id: idAs("", "", "1 2"), Body: "1 2"},
		"<a><title>1</title><id>3</id><summary>4</summary></a>":          {Id: idAs("", "", "")},
		"<entry><title>1</title></entry>":                                {Id: idAs("", "", "")},
		// Names of RSS say nothing.
		"<guid>1</guid><description>2</description><pubDate>1970-01-01T00:00:01Z</pubDate><link>3</link>": {Id: idAs("", "", "")},
		"<Title>1</Title><ID>2</ID><Updated>1970-01-01T00:00:01Z</Updated><x:summary>3</x:summary>":       {Id: idAs("", "", "")},
		"<title>" + long + "</title>":     {Id: idAs("", long[:128], ""), Title: long[:128]},
		"<summary>" + long + "</summary>": {Id: idAs("", "", long[:128]), Body: long[:128]},
		"<content>" + long + "</content>": {Id: idAs("", "", long[:128]), Body: long[:128]},
		"<link href='" + long + "'/>":     {Id: idAs(long[:128], "", ""), Link: long[:128]},
		"<id>" + long + "</id>":           {Id: idAs(long, "", "")},
	} {
		parsesOne(t, forms()[1].of(kids), want)
	}
}

// TestFe1Name: white at its ends does not count, all else of it does.
func TestFe1Name(t *testing.T) {
	long := strings.Repeat("x", 128)
	for _, f := range forms() {
		for written, want := range map[string]string{
			"": "", " ": "", "\n\t": "", "&#13;": "", "<![CDATA[]]>": "", "<b> </b>": "", "x": "x", " x ": "x", "\n\tx&#13;\n": "x", " x  y ": "x  y", "x\n\ny": "x\n\ny", "X": "X", "\u00a0x": "\u00a0x",
			long + "1": long + "1", long + "2": long + "2", " " + long + "  y ": long + "  y", "&lt;x&gt;": "<x>", "http://a/?b=1&amp;c": "http://a/?b=1&c",
		} {
			parsesOne(t, f.of(f.names(written)), named(want))
		}
	}
	// Where there is none, Link is, in short.
	for _, s := range []string{"", "<guid/>", "<guid> </guid>", "<id>2</id>"} {
		parsesOne(t, forms()[0].of(s+"<link> 1  1 </link><title>t</title>"), api.Entry{Id: idAs("1 1", "", ""), Link: "1 1", Title: "t"})
	}
	for _, s := range []string{"", "<id/>", "<id> </id>", "<guid>2</guid>"} {
		parsesOne(t, forms()[1].of(s+"<link href=' 1  1 '/><title>t</title>"), api.Entry{Id: idAs("1 1", "", ""), Link: "1 1", Title: "t"})
	}
}

func TestFe1Times(t *testing.T) {
	for written, want := range map[string]int64{
		"Thu, 01 Jan 1970 00:00:09 GMT": 9, "01 Jan 70 00:00 +0100": -3600, "1970-01-01T00:00:09Z": 9, "1969-12-31T23:59:59Z": -1, " \n1970-01-01T00:00:09Z\t ": 9, "1970-01-01T00:00:00Z": 0,
		"0001-01-01T00:00:00+23:59": -62135683140, "9999-12-31T23:59:59.5-23:59": 253402387139,
	} {
		dated := api.Entry{Id: idAs("", "", ""), Time: want, Dated: true}
		parsesOne(t, forms()[0].of("<pubDate>"+written+"</pubDate>"), dated)
		for _, kids := range []string{"<updated>%s</updated>", "<published>%s</published>", "<updated>%s</updated><published>never</published>", "<updated>%s</updated><published>1970-01-01T00:00:05Z</published>", "<published>1970-01-01T00:00:05Z</published><updated>%s</updated>", "<updated>never</updated><published>%s</published>", "<updated/><published>%s</published>"} {
			parsesOne(t, forms()[1].of(strings.ReplaceAll(kids, "%s", written)), dated)
		}
	}
	for _, written := range []string{"", " ", "never", "0", "2000-02-30T00:00:00Z", "1970-01-01", "1970-01-01T00:00:09", "Thu, 01 Jan 1970 00:00:60 GMT", "1970-01-01T00:00:09Z x", "1970-01-01T00:00:09Z 1970-01-01T00:00:09Z", "\u00a01970-01-01T00:00:09Z"} {
		never := api.Entry{Id: idAs("", "", "")}
		parsesOne(t, forms()[0].of("<pubDate>"+written+"</pubDate>"), never)
		for _, kids := range []string{"<updated>%s</updated>", "<published>%s</published>", "<updated>%s</updated><published>%s</published>", "<updated>%s</updated><updated>1970-01-01T00:00:05Z</updated>", "<published>%s</published><published>1970-01-01T00:00:05Z</published>"} {
			parsesOne(t, forms()[1].of(strings.ReplaceAll(kids, "%s", written)), never)
		}
	}
}

// TestFe1SameIds: of entries with one Id the first counts.
func TestFe1SameIds(t *testing.T) {
	for _, f := range forms() {
		for _, c := range []struct {
			entries []string
			want    []api.Entry
		}{
			{[]string{f.names("x") + "<title>1</title>", f.names(" x ") + "<title>2</title>"}, []api.Entry{{Id: idAs("x", "", ""), Title: "1"}}},
			{[]string{f.names("x"), f.names("y"), f.names("x"), f.names("z"), f.names("y")}, []api.Entry{named("x"), named("y"), named("z")}},
			{[]string{"", "", " "}, []api.Entry{{Id: idAs("", "", "")}}},
			{[]string{"<title>1</title>", "<title> 1 </title>", "<title>2</title>"}, []api.Entry{{Id: idAs("", "1", ""), Title: "1"}, {Id: idAs("", "2", ""), Title: "2"}}},
			// Of one name and of one link, too.
			{[]string{f.names("x"), "<link href='x'>x</link>"}, []api.Entry{named("x")}},
			{[]string{"<link href='x'>x</link>", f.names("x")}, []api.Entry{{Id: idAs("x", "", ""), Link: "x"}}},
			{[]string{f.names("X"), f.names("x")}, []api.Entry{named("X"), named("x")}},
			{[]string{f.names("x  y"), f.names("x y")}, []api.Entry{named("x  y"), named("x y")}},
		} {
			parses(t, f.of(c.entries...), api.Feed{Entries: c.want})
		}
	}
}

func TestFe1MaxEntries(t *testing.T) {
	for _, f := range forms() {
		var entries []string
		var want []api.Entry
		for i := range 40 {
			name := strconv.Itoa(i)
			entries, want = append(entries, f.names(name)), append(want, named(name))
			parses(t, f.of(entries...), api.Feed{Entries: want[:min(len(want), 16)]})
		}
		// Those that don't count take no room.
		twice := append(strings.Split(strings.Repeat(f.names("0")+" ", 20), " "), entries...)
		as(t, f.of(twice...))
		parses(t, f.of(append(twice[:20:20], entries...)...), api.Feed{Entries: want[:16]})
		parses(t, f.of(append(entries[:15:15], f.names("3"), f.names("0"), f.names("15"), f.names("16"))...), api.Feed{Entries: want[:16]})
		parses(t, f.of(append(entries[:16:16], f.names("3")+"<title>x</title>")...), api.Feed{Entries: want[:16]})
	}
}

func TestFe1Neither(t *testing.T) {
	for _, s := range []string{
		"<html/>", "<rss/>", "<rss>x</rss>", "<rss><Channel/></rss>", "<rss><x:channel/></rss>", "<rss><x><channel/></x></rss>", "<rss><feed/></rss>", "<rss><item/></rss>", "<rss channel=''/>",
		"<channel/>", "<channel><item/></channel>", "<RSS><channel/></RSS>", "<Rss><channel/></Rss>", "<x:rss><channel/></x:rss>", "<rss2><channel/></rss2>", "<rs><channel/></rs>", "<rdf:RDF><channel/></rdf:RDF>", "<x><rss><channel/></rss></x>",
		"<Feed/>", "<FEED/>", "<atom:feed/>", "<feeds/>", "<fee/>", "<entry/>", "<x><feed/></x>", "<a/>", "<item/>",
	} {
		refuses(t, s, api.ErrText)
		as(t, s)
		if n, e := xml.Parse(s); e != api.OK {
			t.Errorf("%q is no file: error %d", s, e)
		} else {
			readRefuses(t, n, api.ErrText)
		}
	}
}

// node is a tree with these kids.
func node(name string, kids ...api.Node) api.Node { return api.Node{Name: name, Kids: kids} }

// deep is a tree of so many elements, one in the other.
func deep(name string, n int) api.Node {
	tree := node("b")
	for range n - 2 {
		tree = node("b", tree)
	}
	return node(name, tree)
}

// TestFe1ReadRefuses: whatever layer 13 tells of what may not be a tree, it is ErrArg, also where it is no feed.
func TestFe1ReadRefuses(t *testing.T) {
	words, kids := api.Node{Text: "x"}, make([]api.Node, 4096)
	for i := range kids {
		kids[i] = node("b")
	}
	for _, name := range []string{"feed", "rss", "html"} {
		for errno, broken := range map[api.Errno][]api.Node{
			api.ErrArg: {
				{}, words, {Name: name, Text: "x"}, node(name, words, words), node(name, api.Node{}), node(name, api.Node{Text: "\x00"}), node(name, api.Node{Text: "\xff"}), node(name, node("title", api.Node{Text: "\xff"})), node(name, node("channel", node("1"))), node(name, node(strings.Repeat("a", 65))),
				{Name: name, Attrs: []api.Header{{Name: "a"}, {Name: "a"}}}, {Name: name, Attrs: []api.Header{{Name: "a", Value: "\xff"}}}, {Name: name, Attrs: []api.Header{{}}}, node(name, api.Node{Text: "x", Attrs: []api.Header{{Name: "a"}}}),
				node(name + " "), node(" " + name), node(name + "\x00"), node("1"),
			},
			api.ErrDeep: {deep(name, 17), deep(name, 100)},
			api.ErrLong: {node(name, kids...), node(name, node("channel", kids...))},
		} {
			for _, n := range broken {
				if e := xml.Check(n); e != errno {
					t.Errorf("Check(%.100q): error %d, want %d", fmt.Sprint(n), e, errno)
				}
				readRefuses(t, n, api.ErrArg)
				readsAs(t, n)
			}
		}
	}
	for _, n := range []api.Node{deep("feed", 16), node("feed", kids[1:]...), node("rss", node("channel", kids[2:]...))} {
		if got, e := Read(n); !sameFeed(got, api.Feed{}) || e != api.OK {
			t.Errorf("Read of a tree as great as may be = %+v, error %d", got, e)
		}
	}
}

// TestFe1ReadLong: a tree may have texts that no file has room for.
func TestFe1ReadLong(t *testing.T) {
	words := strings.Repeat("x", 1<<20)
	n := node("feed", node("title", api.Node{Text: words}), node("entry", node("id", api.Node{Text: words})))
	if got, e := Read(n); !sameFeed(got, api.Feed{Title: words[:128], Entries: []api.Entry{named(words)}}) || e != api.OK {
		t.Errorf("Read of long texts = %.300q, error %d", fmt.Sprint(got), e)
	}
}

func TestFe1ParseRefuses(t *testing.T) {
	for s, errno := range map[string]api.Errno{
		"": api.ErrText, " ": api.ErrText, "x": api.ErrText, "<feed>": api.ErrText, "<feed></rss>": api.ErrText, "<feed/><feed/>": api.ErrText, "<feed/>x": api.ErrText, "<feed>&nbsp;</feed>": api.ErrText, "<feed>\x00</feed>": api.ErrText, "<feed>\xff</feed>": api.ErrText, "<feed a='1' a='2'/>": api.ErrText, "\ufeff<feed/>": api.ErrText,
		"<rss><channel></rss>": api.ErrText, "<rss><channel><title></channel></rss>": api.ErrText,
		"<!DOCTYPE feed><feed/>": api.ErrDenied, "<?xml version='1.0'?>\n<!DOCTYPE rss [<!ENTITY a 'b'>]><rss><channel/></rss>": api.ErrDenied, "<!DOCTYPE html>": api.ErrDenied,
		"<feed>" + strings.Repeat("<a>", 16): api.ErrDeep, "<rss><channel><item>" + strings.Repeat("<a>", 14): api.ErrDeep, "<html>" + strings.Repeat("<a>", 16): api.ErrDeep,
		"<feed>" + strings.Repeat("<a/>", 4096) + "</feed>": api.ErrLong, "<html>" + strings.Repeat("<a/>", 4096): api.ErrLong, "<feed>" + strings.Repeat("x", 65536-12) + "</feed>": api.ErrLong, strings.Repeat("\xff", 65537): api.ErrLong,
	} {
		refuses(t, s, errno)
		as(t, s)
	}
	refuses(t, "<html>"+strings.Repeat("x", 65536-13)+"</html>", api.ErrText)
	parses(t, "<feed>"+strings.Repeat("x", 65536-13)+"</feed>", api.Feed{})
	parses(t, "<feed>"+strings.Repeat("<a/>", 4095)+"</feed>", api.Feed{})
	if got, e := Parse(nil); !reflect.DeepEqual(got, api.Feed{}) || e != api.ErrText {
		t.Errorf("Parse(nil) = %+v, error %d", got, e)
	}
}

// samples are feeds that have something of all.
func samples() []string {
	return []string{
		"<rss><channel><title>t</title><link>l</link><item><guid>g</guid><title>t</title><link>l</link><description>d</description><pubDate>1 Jan 70 00:00 Z</pubDate></item><item><link>k</link></item></channel></rss>",
		"<feed><title>t</title><link rel='self' href='s'/><link href='l'/><entry><id>i</id><title>t</title><link rel='alternate' href='h'/><summary> </summary><content>c</content><updated>x</updated><published>1970-01-01T00:00:01Z</published></entry><entry/></feed>",
	}
}

// TestFe1EveryByte: samples with each byte gone, and with others in its place, are as this file's walks have them.
func TestFe1EveryByte(t *testing.T) {
	for _, s := range samples() {
		as(t, s)
		for i := range s {
			as(t, s[:i]+s[i+1:])
			as(t, s[:i])
			for _, c := range []string{" ", "x", "X", "<", "/", "\xff"} {
				as(t, s[:i]+c+s[i+1:])
			}
		}
	}
}

// chanceKid is a tree of names that feeds have, with texts that are often alike.
func chanceKid(chance *rand.Rand, names, words []string) api.Node {
	n := node(names[chance.Intn(len(names))])
	if n.Name == "link" && chance.Intn(2) == 0 {
		n.Attrs = append(n.Attrs, api.Header{Name: "rel", Value: []string{"self", "alternate", ""}[chance.Intn(3)]})
	}
	if n.Name == "link" && chance.Intn(4) > 0 {
		n.Attrs = append(n.Attrs, api.Header{Name: "href", Value: words[chance.Intn(len(words))]})
	}
	if chance.Intn(5) > 0 {
		n.Kids = append(n.Kids, api.Node{Text: words[chance.Intn(len(words))]})
	}
	if chance.Intn(5) == 0 {
		n.Kids = append(n.Kids, node("title", api.Node{Text: words[chance.Intn(len(words))]}))
	}
	return n
}

// chanceFeed is a tree that is mostly a feed, of as many entries as there may be or more.
func chanceFeed(chance *rand.Rand) api.Node {
	words := []string{"a", "b", " a ", "a  b", " ", "\n", "1970-01-01T00:00:01Z", "1 Jan 70 00:00:02 Z", strings.Repeat("a", 130), strings.Repeat("a", 131), "€"}
	name, entry, kids := "rss", "item", []string{"title", "link", "description", "guid", "pubDate", "id", "x"}
	if chance.Intn(2) == 0 {
		name, entry, kids = "feed", "entry", []string{"title", "link", "summary", "content", "id", "updated", "published", "guid", "x"}
	}
	if chance.Intn(20) == 0 {
		name = []string{"rss", "feed", "html"}[chance.Intn(3)]
	}
	var all []api.Node
	for range chance.Intn(40) {
		if chance.Intn(8) == 0 {
			all = append(all, chanceKid(chance, kids, words))
			continue
		}
		one := node(entry)
		for range chance.Intn(6) {
			one.Kids = append(one.Kids, chanceKid(chance, kids, words))
		}
		all = append(all, one)
	}
	if name != "rss" {
		return node(name, all...)
	}
	half := len(all) / (1 + chance.Intn(3))
	return node(name, node("x"), node("channel", all[:half]...), node("channel", all[half:]...))
}

// TestFe1Chance: trees, and the files of them, are as this file's walks have them.
func TestFe1Chance(t *testing.T) {
	chance := rand.New(rand.NewSource(15))
	for range 1500 {
		n := chanceFeed(chance)
		readsAs(t, n)
		s, e := xml.Print(n)
		if e != api.OK {
			t.Fatalf("%.300q is not put together: error %d", fmt.Sprint(n), e)
		}
		as(t, s)
		if t.Failed() {
			return
		}
	}
}
