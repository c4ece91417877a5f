package feed

import (
	"math/rand"
	"reflect"
	"slices"
	"strconv"
	"strings"
	"testing"
	"unsafe"

	"lantern/api"
	"lantern/xml"
)

// find is where the first entry of an Id stands; below 0: there is none.
func find(l []api.Entry, id string) int {
	return slices.IndexFunc(l, func(e api.Entry) bool { return e.Id == id })
}

// mergeAs is what Merge is to tell, entry by entry.
func mergeAs(old, fresh []api.Entry) []api.Entry {
	var told []api.Entry
	for _, f := range fresh {
		if find(old, f.Id) < 0 && find(told, f.Id) < 0 {
			told = append(told, f)
		}
	}
	for _, o := range old {
		if find(told, o.Id) >= 0 {
			continue
		}
		if i := find(fresh, o.Id); i >= 0 {
			o.Title, o.Link, o.Body, o.Time, o.Dated = fresh[i].Title, fresh[i].Link, fresh[i].Body, fresh[i].Time, fresh[i].Dated
		}
		told = append(told, o)
	}
	return told[:min(len(told), 16)]
}

// merges holds what Merge, and this file, tell against what they are to tell.
func merges(t *testing.T, old, fresh, want []api.Entry) {
	t.Helper()
	if got := Merge(old, fresh); !sameEntries(got, want) {
		t.Errorf("Merge(%v, %v) = %v, want %v", old, fresh, got, want)
	}
	if got := mergeAs(old, fresh); !sameEntries(got, want) {
		t.Errorf("this file makes %v of %v, %v, want %v", got, old, fresh, want)
	}
}

// titled are entries, each written as its Id and, behind it, its title.
func titled(s string) []api.Entry {
	var l []api.Entry
	for _, word := range strings.Fields(s) {
		l = append(l, api.Entry{Id: word[:1], Title: word[1:]})
	}
	return l
}

// letters are so many entries from that letter on.
func letters(from rune, count int) string {
	s := ""
	for i := range count {
		s += string(from+rune(i)) + " "
	}
	return s
}

func TestFe2Merge(t *testing.T) {
	for _, c := range []struct{ old, fresh, want string }{
		{"", "", ""}, {"a", "", "a"}, {"", "a", "a"}, {"a", "b", "b a"}, {"a b", "c d", "c d a b"}, {"b a", "d c", "d c b a"},
		// What is known keeps its place, and has what is fresh.
		{"a1", "a2", "a2"}, {"a1 b1", "b2", "a1 b2"}, {"a1 b1", "b2 a2", "a2 b2"}, {"a1 b", "c a2", "c a2 b"}, {"a1 b1 c1", "x b2 y", "x y a1 b2 c1"}, {"a1", "a", "a"}, {"a", "a1", "a1"},
		// The first of each Id.
		{"", "a1 a2", "a1"}, {"a1 a2", "", "a1"}, {"a1 b a2", "c1 c2", "c1 a1 b"}, {"a1", "a2 a3", "a2"}, {"a1 a2", "a3 a4", "a3"}, {"a1 b1 a2", "b2 c1 b3 c2", "c1 a1 b2"}, {"", "a1 b1 a2 b2 c", "a1 b1 c"},
		// As many as count: those that are fresh push out the last.
		{letters('a', 16), "", letters('a', 16)}, {letters('a', 17), "", letters('a', 16)}, {"", letters('a', 17), letters('a', 16)}, {"", letters('a', 26), letters('a', 16)},
		{letters('a', 16), "z", "z " + letters('a', 15)}, {letters('a', 16), "x y z", "x y z " + letters('a', 13)}, {letters('a', 5), letters('k', 15), letters('k', 15) + "a"}, {letters('a', 5), letters('k', 16), letters('k', 16)}, {"a", letters('b', 17), letters('b', 16)},
		{letters('a', 16), "p1", letters('a', 15) + "p1"}, {letters('a', 16), "z p1", "z " + letters('a', 15)}, {letters('a', 20), "q1 r1", letters('a', 16)}, {letters('a', 20), "q1 z", "z " + letters('a', 15)},
		{letters('a', 16), letters('a', 20), letters('q', 4) + letters('a', 12)}, {letters('a', 20), letters('e', 16), letters('a', 16)},
		{strings.Repeat("a ", 20) + "b", "", "a b"}, {"", strings.Repeat("a ", 20) + "b", "a b"}, {strings.Repeat("a ", 20) + letters('b', 15), strings.Repeat("a1 ", 20), "a1 " + letters('b', 15)},
	} {
		merges(t, titled(c.old), titled(c.fresh), titled(c.want))
	}
}

// TestFe2Fields: all that an entry says is the fresh one's, also where that is less.
func TestFe2Fields(t *testing.T) {
	full := api.Entry{Id: "a", Title: "t", Link: "l", Body: "b", Time: 5, Dated: true}
	other := api.Entry{Id: "a", Title: "T", Link: "L", Body: "B", Time: -7, Dated: true}
	least := api.Entry{Id: "a"}
	strange := api.Entry{Id: "a", Title: "\xff", Time: 9}
	all := []api.Entry{full, other, least, strange}
	for _, old := range all {
		merges(t, []api.Entry{old}, nil, []api.Entry{old})
		merges(t, nil, []api.Entry{old}, []api.Entry{old})
		for _, fresh := range all {
			merges(t, []api.Entry{old}, []api.Entry{fresh}, []api.Entry{fresh})
			merges(t, []api.Entry{{Id: "0"}, old, fresh}, []api.Entry{{Id: "1"}, fresh, old}, []api.Entry{{Id: "1"}, {Id: "0"}, fresh})
		}
	}
	// Each field by itself.
	for i, turn := range []func(e *api.Entry){
		func(e *api.Entry) { e.Title = "x" }, func(e *api.Entry) { e.Link = "x" }, func(e *api.Entry) { e.Body = "x" }, func(e *api.Entry) { e.Time = 1 << 60 }, func(e *api.Entry) { e.Dated = false },
	} {
		fresh := full
		turn(&fresh)
		if fresh == full {
			t.Errorf("turn %d turns nothing", i)
		}
		merges(t, []api.Entry{full}, []api.Entry{fresh}, []api.Entry{fresh})
		merges(t, []api.Entry{fresh}, []api.Entry{full}, []api.Entry{full})
	}
	// Any text is an Id, by its bytes; what else is alike does not count.
	for _, ids := range [][2]string{{"", "a"}, {"a", "A"}, {"a", "a "}, {"a", " a"}, {"\xff", "\xfe"}, {"\xff", "\ufffd"}, {"a", "a\x00"}, {"", "\x00"}, {strings.Repeat("a", 1000), strings.Repeat("a", 999)}} {
		x, y := full, full
		x.Id, y.Id = ids[0], ids[1]
		merges(t, []api.Entry{x}, []api.Entry{y}, []api.Entry{y, x})
		merges(t, []api.Entry{x, y}, []api.Entry{y, x}, []api.Entry{x, y})
	}
}

// lists calls f on every list of at most so many entries with few Ids, each with a title of its own.
func lists(most, ids int, title string, f func(l []api.Entry)) {
	var grow func(l []api.Entry)
	grow = func(l []api.Entry) {
		f(l)
		for id := 0; id < ids && len(l) < most; id++ {
			grow(append(slices.Clip(l), api.Entry{Id: strconv.Itoa(id), Title: title + strconv.Itoa(len(l))}))
		}
	}
	grow(nil)
}

// unlike tells whether no two entries have one Id.
func unlike(l []api.Entry) bool {
	for i, e := range l {
		if find(l, e.Id) != i {
			return false
		}
	}
	return true
}

// allKnown tells whether each entry's Id is one of the others'.
func allKnown(l, in []api.Entry) bool {
	return !slices.ContainsFunc(l, func(e api.Entry) bool { return find(in, e.Id) < 0 })
}

// mergesOnce holds a merge against this file's, and what follows of it.
func mergesOnce(t *testing.T, old, fresh []api.Entry) {
	t.Helper()
	merged := Merge(old, fresh)
	if want := mergeAs(old, fresh); !sameEntries(merged, want) {
		t.Fatalf("Merge(%v, %v) = %v, want %v", old, fresh, merged, want)
	}
	if !unlike(merged) || len(merged) > 16 {
		t.Fatalf("Merge(%v, %v) = %v: Ids that are alike, or too many", old, fresh, merged)
	}
	if again := Merge(merged, merged); !sameEntries(again, merged) {
		t.Fatalf("Merge(%v, itself) = %v", merged, again)
	}
	if again := Merge(merged, nil); !sameEntries(again, merged) {
		t.Fatalf("Merge(%v, nil) = %v", merged, again)
	}
	// What found no room is fresh again.
	if again := Merge(merged, fresh); allKnown(fresh, merged) && !sameEntries(again, merged) {
		t.Fatalf("Merge(%v, %v) once more = %v", merged, fresh, again)
	}
}

func TestFe3EveryMerge(t *testing.T) {
	lists(4, 3, "o", func(old []api.Entry) {
		lists(4, 4, "f", func(fresh []api.Entry) { mergesOnce(t, old, fresh) })
	})
}

// chanceEntries are entries of which some have one Id.
func chanceEntries(chance *rand.Rand, most, ids int) []api.Entry {
	var l []api.Entry
	for n := chance.Intn(most + 1); n > 0; n-- {
		e := api.Entry{Id: strconv.Itoa(chance.Intn(ids)), Title: strconv.Itoa(chance.Int()), Link: strconv.Itoa(chance.Int())}
		e.Body, e.Time, e.Dated = strconv.Itoa(chance.Int()), chance.Int63(), chance.Intn(2) == 0
		l = append(l, e)
	}
	return l
}

func TestFe3ChanceMerge(t *testing.T) {
	chance := rand.New(rand.NewSource(15))
	for range 8000 {
		ids := 1 + chance.Intn(50)
		mergesOnce(t, chanceEntries(chance, 40, ids), chanceEntries(chance, 40, ids))
	}
}

// TestFe3Feeds: what feeds have is unlike, and merged with itself, or with what it was merged with, it is the same.
func TestFe3Feeds(t *testing.T) {
	chance := rand.New(rand.NewSource(3))
	var known []api.Entry
	for range 1000 {
		f, _ := Read(chanceFeed(chance))
		if !unlike(f.Entries) || len(f.Entries) > 16 {
			t.Fatalf("Ids that are alike, or too many: %v", f.Entries)
		}
		mergesOnce(t, nil, f.Entries)
		mergesOnce(t, f.Entries, f.Entries)
		mergesOnce(t, known, f.Entries)
		if merged := Merge(nil, f.Entries); !sameEntries(merged, f.Entries) {
			t.Fatalf("Merge(nil, %v) = %v", f.Entries, merged)
		}
		known = Merge(known, f.Entries)
	}
}

// A span is where memory begins and ends.
type span struct{ from, to uintptr }

func (x span) meets(y span) bool { return x.from < y.to && y.from < x.to }

func textSpan(s string) span {
	at := uintptr(unsafe.Pointer(unsafe.StringData(s)))
	return span{at, at + uintptr(len(s))}
}

// entrySpans is the memory of a list, its spare room too, and of its texts.
func entrySpans(l []api.Entry) []span {
	at := uintptr(unsafe.Pointer(unsafe.SliceData(l)))
	all := []span{{at, at + uintptr(cap(l))*unsafe.Sizeof(api.Entry{})}}
	for _, e := range l {
		all = append(all, textSpan(e.Id), textSpan(e.Title), textSpan(e.Link), textSpan(e.Body))
	}
	return all
}

// nodeSpans is the memory of all texts within a node.
func nodeSpans(n api.Node) []span {
	all := []span{textSpan(n.Name), textSpan(n.Text)}
	for _, a := range n.Attrs {
		all = append(all, textSpan(a.Name), textSpan(a.Value))
	}
	for _, kid := range n.Kids {
		all = append(all, nodeSpans(kid)...)
	}
	return all
}

func apart(t *testing.T, what string, answer, given []span) {
	t.Helper()
	for _, x := range answer {
		if slices.ContainsFunc(given, x.meets) {
			t.Errorf("%s: the answer shares memory with what was handed in", what)
		}
	}
}

func TestR3Merge(t *testing.T) {
	build := func(s string) []api.Entry {
		var l []api.Entry
		for _, word := range strings.Fields(s) {
			l = append(l, api.Entry{Id: strings.Clone(word[:1]), Title: strings.Clone(word), Link: "l" + word, Body: "b" + word, Time: 1})
		}
		return append(l, api.Entry{Id: "behind"}, api.Entry{Id: "behind"})[:len(l)]
	}
	for _, c := range [][2]string{{"a1 b1 c1 b2", "x1 b3 y1 x2"}, {"a1 b1", ""}, {"", "a1 b1"}, {letters('a', 16), "z"}, {letters('a', 16), ""}, {"", letters('a', 16)}, {letters('a', 16), letters('a', 16)}, {letters('a', 20), letters('k', 20)}} {
		old, fresh := build(c[0]), build(c[1])
		keptOld, keptFresh := slices.Clone(old[:cap(old)]), slices.Clone(fresh[:cap(fresh)])
		merged := Merge(old, fresh)
		apart(t, "Merge", entrySpans(merged), append(entrySpans(old), entrySpans(fresh)...))
		for _, e := range merged[len(merged):cap(merged)] {
			if e != (api.Entry{}) {
				t.Errorf("behind the end of Merge(%q) stands %v", c, e)
			}
		}
		for i := range merged {
			merged[i] = api.Entry{Id: "turned"}
		}
		_ = append(merged, api.Entry{Id: "turned"})
		if !reflect.DeepEqual(old[:cap(old)], keptOld) || !reflect.DeepEqual(fresh[:cap(fresh)], keptFresh) {
			t.Errorf("Merge(%q) turned what was handed in", c)
		}
	}
	if l := build("a1 b1 c1"); !sameEntries(Merge(l, l), l) || !sameEntries(Merge(l[:2], l[1:]), build("c1 a1 b1")) {
		t.Error("Merge of lists that share memory")
	}
}

func TestR3Feeds(t *testing.T) {
	for _, s := range append(samples(), "<feed><entry><id>x</id><title>x</title><link href='x'/><content>x</content></entry></feed>") {
		b := append([]byte(s), "behind"...)[:len(s)]
		at := uintptr(unsafe.Pointer(unsafe.SliceData(b)))
		f, _ := Parse(b)
		apart(t, "Parse", append(entrySpans(f.Entries), textSpan(f.Title), textSpan(f.Link)), []span{{at, at + uintptr(cap(b))}})
		kept, _ := Parse([]byte(s))
		clear(b)
		if !sameFeed(f, kept) {
			t.Errorf("what Parse told turns with what was handed in: %v", f)
		}
		n, _ := xml.Parse(s)
		f, _ = Read(n)
		apart(t, "Read", append(entrySpans(f.Entries), textSpan(f.Title), textSpan(f.Link)), nodeSpans(n))
		if again, _ := xml.Parse(s); !reflect.DeepEqual(n, again) {
			t.Errorf("Read turned what was handed in: %v", n)
		}
	}
	for _, s := range []string{"a", "a b", " a ", strings.Repeat("a", 128), strings.Repeat("a", 200)} {
		s = strings.Clone(s)
		apart(t, "Short", []span{textSpan(Short(s))}, []span{textSpan(s)})
	}
}

// TestR1Large: much is gone through, too, in a moment.
func TestR1Large(t *testing.T) {
	const size = 1 << 17
	var l []api.Entry
	for i := range size {
		l = append(l, api.Entry{Id: strconv.Itoa(i)})
	}
	if got := Merge(l, l); !sameEntries(got, l[:16]) {
		t.Errorf("Merge of many = %v", got)
	}
	if got := Merge(l[size/2:], l[:size/2]); !sameEntries(got, l[:16]) {
		t.Errorf("Merge of many that are fresh = %v", got)
	}
	for _, piece := range []string{"<item/>", "<entry/>", "<title/>", "<link/>", "<link href='x'/>", "<x/>"} {
		for _, f := range forms() {
			as(t, f.of(strings.Repeat(piece, 4000)))
			as(t, f.head+strings.Repeat(piece, 4000)+f.tail)
		}
	}
}

// TestNothingIsKept: what a call tells doesn't hang on the calls ahead.
func TestNothingIsKept(t *testing.T) {
	for range 3 {
		merges(t, titled("a1 b1"), titled("b2 c2"), titled("c2 a1 b2"))
		merges(t, nil, nil, nil)
		refuses(t, "<html/>", api.ErrText)
		readRefuses(t, api.Node{}, api.ErrArg)
		for _, s := range samples() {
			as(t, s)
		}
	}
}
