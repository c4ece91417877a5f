package json

import (
	stdjson "encoding/json"
	"math"
	"regexp"
	"strconv"
	"strings"
	"testing"
	"unicode/utf8"

	"lantern/api"
)

// What this file reads values by.
const aNumber = `-?(?:0|[1-9][0-9]*)`

var (
	someWhite  = regexp.MustCompile(`^[ \t\n\r]+`)
	aFirstByte = regexp.MustCompile(`^["\[{ntf0-9-]`)
	aWord      = regexp.MustCompile(`^(?:null|true|false)`)
	aText      = regexp.MustCompile(`^"(?:[^"\\\x00-\x1f]|\\(?:["\\/bfnrt]|u[0-9A-Fa-f]{4}))*"`)
	anEscape   = regexp.MustCompile(`\\(?:u[0-9A-Fa-f]{4}|.)`)
	aWhole     = regexp.MustCompile(`^` + aNumber)
	aBroken    = regexp.MustCompile(`^` + aNumber + `(?:\.[0-9]+(?:[eE][+-]?[0-9]+)?|[eE][+-]?[0-9]+)`)
	cutShort   = regexp.MustCompile(`^` + aNumber + `(?:\.(?:[^0-9]|$)|(?:\.[0-9]+)?[eE](?:[+-](?:[^0-9]|$)|[^0-9+-]|$))`)
)

// model is a reader of this file's own: it takes one piece after the other off its text
// by patterns, and has the lists and objects that are open on a pile.
type model struct {
	rest string
	seen int
	open []api.Value
	tree *api.Value
	next string // what may stand there: a value, "]" or a value, a name, "}" or a name, ":" or a comma, the end
}

// parseOf is what Parse is to tell, by this file's patterns.
func parseOf(s string) (api.Value, api.Errno) {
	if len(s) > 65536 {
		return api.Value{}, api.ErrLong
	}
	if !utf8.ValidString(s) {
		return api.Value{}, api.ErrText
	}
	m := model{rest: s, next: "value"}
	for {
		m.take(someWhite)
		if m.rest == "" && m.next == "end" {
			return *m.tree, api.OK
		}
		if e := m.step(); e != api.OK {
			return api.Value{}, e
		}
	}
}

func (m *model) take(p *regexp.Regexp) string {
	found := p.FindString(m.rest)
	m.rest = m.rest[len(found):]
	return found
}

func (m *model) mark(s string) bool {
	if !strings.HasPrefix(m.rest, s) {
		return false
	}
	m.rest = m.rest[len(s):]
	return true
}

func (m *model) step() api.Errno {
	switch m.next {
	case "end":
		return api.ErrText
	case "value":
		return m.value()
	case "] value":
		if m.mark("]") {
			return m.shut()
		}
		return m.value()
	case "} name":
		if m.mark("}") {
			return m.shut()
		}
		return m.name()
	case "name":
		return m.name()
	case ":":
		m.next = "value"
		if !m.mark(":") {
			return api.ErrText
		}
		return api.OK
	}
	end, then := "]", "value"
	if m.open[len(m.open)-1].Kind == api.ValueObject {
		end, then = "}", "name"
	}
	if m.mark(end) {
		return m.shut()
	}
	m.next = then
	if !m.mark(",") {
		return api.ErrText
	}
	return api.OK
}

func (m *model) name() api.Errno {
	name, ok := unquoted(m.take(aText))
	in := &m.open[len(m.open)-1]
	for _, other := range in.Names {
		ok = ok && other != name
	}
	if !ok {
		return api.ErrText
	}
	in.Names = append(in.Names, name)
	m.next = ":"
	return api.OK
}

// unquoted is what a text says; false: it can't be one. The library tells what its escapes are,
// but takes halves of runes for signs of its own: those are sought here.
func unquoted(s string) (string, bool) {
	half := -1 // where the one behind a high half must begin
	for _, place := range anEscape.FindAllStringIndex(s, -1) {
		escape := strings.ToLower(s[place[0]:place[1]])
		isLow := len(escape) == 6 && escape >= `\udc00` && escape <= `\udfff`
		isHigh := len(escape) == 6 && escape >= `\ud800` && escape < `\udc00`
		switch {
		case half >= 0 && (!isLow || half != place[0]), half < 0 && isLow:
			return "", false
		case isHigh:
			half = place[1]
		default:
			half = -1
		}
	}
	var says string
	err := stdjson.Unmarshal([]byte(s), &says)
	return says, half < 0 && err == nil
}

func (m *model) value() api.Errno {
	if aFirstByte.MatchString(m.rest) {
		if m.seen++; m.seen == 8193 {
			return api.ErrLong
		}
	}
	switch {
	case m.mark("["):
		return m.begin(api.ValueList, "] value")
	case m.mark("{"):
		return m.begin(api.ValueObject, "} name")
	}
	if s := m.take(aWord); s != "" {
		return m.done(map[string]api.Value{"null": {}, "true": {Kind: 1, Num: 1}, "false": {Kind: 1}}[s])
	}
	if cutShort.MatchString(m.rest) {
		return api.ErrText
	}
	if m.take(aBroken) != "" {
		return api.ErrArg
	}
	if s := m.take(aWhole); s != "" {
		n, err := strconv.ParseInt(s, 10, 64)
		if err != nil {
			return api.ErrArg
		}
		return m.done(api.Value{Kind: 2, Num: n})
	}
	s, ok := unquoted(m.take(aText))
	if !ok {
		return api.ErrText
	}
	return m.done(api.Value{Kind: 3, Text: s})
}

func (m *model) begin(kind int, next string) api.Errno {
	if len(m.open) == 16 {
		return api.ErrDeep
	}
	m.open = append(m.open, api.Value{Kind: kind})
	m.next = next
	return api.OK
}

// shut takes the list or object that was opened last for done.
func (m *model) shut() api.Errno {
	top := len(m.open) - 1
	v := m.open[top]
	m.open = m.open[:top]
	return m.done(v)
}

func (m *model) done(v api.Value) api.Errno {
	top := len(m.open) - 1
	if top < 0 {
		m.tree, m.next = &v, "end"
		return api.OK
	}
	m.open[top].List = append(m.open[top].List, v)
	m.next = ","
	return api.OK
}

// checkOf is what Check is to tell, by a walk that calls itself.
func checkOf(v api.Value) api.Errno {
	sound, values, deepest := measure(v)
	switch {
	case !sound:
		return api.ErrArg
	case deepest > 16:
		return api.ErrDeep
	case values > 8192:
		return api.ErrLong
	}
	return api.OK
}

func measure(v api.Value) (sound bool, values, deepest int) {
	has := [4]bool{v.Num != 0, v.Text != "", len(v.List) > 0, len(v.Names) > 0}
	may := [][4]bool{{}, {true}, {true}, {false, true}, {2: true}, {2: true, 3: true}}
	if v.Kind < 0 || v.Kind > 5 {
		return false, 1, 0
	}
	sound = utf8.ValidString(v.Text)
	for i := range has {
		sound = sound && (may[v.Kind][i] || !has[i])
	}
	if v.Kind == api.ValueBool && v.Num != 0 && v.Num != 1 {
		sound = false
	}
	if v.Kind == api.ValueObject {
		sound = sound && len(v.Names) == len(v.List)
		for i, name := range v.Names {
			sound = sound && utf8.ValidString(name)
			for _, other := range v.Names[:i] {
				sound = sound && name != other
			}
		}
	}
	values = 1
	for _, one := range v.List {
		s, n, d := measure(one)
		sound, values, deepest = sound && s, values+n, max(deepest, d)
	}
	if v.Kind >= api.ValueList {
		deepest++
	}
	return sound, values, deepest
}

// printOf is what Print is to tell.
func printOf(v api.Value) (string, api.Errno) {
	if e := checkOf(v); e != api.OK {
		return "", e
	}
	s := put(v)
	if len(s) > 65536 {
		return "", api.ErrLong
	}
	return s, api.OK
}

// quoted is a text as the document has it, each rune by itself.
func quoted(s string) string {
	var pairs []string
	for c := range 32 {
		pairs = append(pairs, string(rune(c)), `\u00`+string("01"[c/16])+string("0123456789abcdef"[c%16]))
	}
	short := []string{"\n", `\n`, "\r", `\r`, "\t", `\t`, `"`, `\"`, `\`, `\\`, "\x7f", `\u007f`}
	return `"` + strings.NewReplacer(append(short, pairs...)...).Replace(s) + `"`
}

func put(v api.Value) string {
	var parts []string
	for i, one := range v.List {
		part := put(one)
		if v.Kind == api.ValueObject {
			part = quoted(v.Names[i]) + ":" + part
		}
		parts = append(parts, part)
	}
	return []string{
		"null", strconv.FormatBool(v.Num == 1), strconv.FormatInt(v.Num, 10), quoted(v.Text), "[" + strings.Join(parts, ",") + "]", "{" + strings.Join(parts, ",") + "}",
	}[v.Kind]
}

// Short forms of values.
func truth(is int64) api.Value       { return api.Value{Kind: api.ValueBool, Num: is} }
func num(n int64) api.Value          { return api.Value{Kind: api.ValueNumber, Num: n} }
func words(s string) api.Value       { return api.Value{Kind: api.ValueText, Text: s} }
func list(of ...api.Value) api.Value { return api.Value{Kind: api.ValueList, List: of} }

// object of names and values, one behind the other.
func obj(parts ...any) api.Value {
	v := api.Value{Kind: api.ValueObject}
	for i := 0; i < len(parts); i += 2 {
		v.Names = append(v.Names, parts[i].(string))
		v.List = append(v.List, parts[i+1].(api.Value))
	}
	return v
}

// nest is lists and objects within each other, so many, and in the last one what is handed in.
func nest(deep int, in ...api.Value) api.Value {
	v := list(in...)
	for i := 1; i < deep; i++ {
		if i%3 == 1 {
			v = obj("a", v)
		} else {
			v = list(v)
		}
	}
	return v
}

// same is whether values are alike: nil and the empty list are.
func same(x, y api.Value) bool {
	if x.Kind != y.Kind || x.Num != y.Num || x.Text != y.Text || len(x.List) != len(y.List) || len(x.Names) != len(y.Names) {
		return false
	}
	for i := range x.Names {
		if x.Names[i] != y.Names[i] {
			return false
		}
	}
	for i := range x.List {
		if !same(x.List[i], y.List[i]) {
			return false
		}
	}
	return true
}

func checks(t *testing.T, v api.Value, want api.Errno) {
	t.Helper()
	if e := Check(v); e != want {
		t.Errorf("Check(%.100v) = error %d, want %d", v, e, want)
	}
	if e := checkOf(v); e != want {
		t.Errorf("this file's own check of %.100v tells error %d, want %d", v, e, want)
	}
}

// printsAs holds Print against this file's own.
func printsAs(t *testing.T, v api.Value) {
	t.Helper()
	want, errno := printOf(v)
	if s, e := Print(v); s != want || e != errno {
		t.Errorf("Print(%.100v) = %.100q, error %d, want %.100q, error %d", v, s, e, want, errno)
	}
	if e := Check(v); e != checkOf(v) {
		t.Errorf("Check(%.100v) = error %d, want %d", v, e, checkOf(v))
	}
}

func prints(t *testing.T, v api.Value, want string) {
	t.Helper()
	printsAs(t, v)
	if s, e := Print(v); s != want || e != api.OK {
		t.Errorf("Print(%v) = %q, error %d, want %q", v, s, e, want)
	}
}

func parses(t *testing.T, s string, want api.Value) {
	t.Helper()
	parsesTo(t, s, want, api.OK)
}

func refuses(t *testing.T, s string, e api.Errno) {
	t.Helper()
	parsesTo(t, s, api.Value{}, e)
}

func parsesTo(t *testing.T, s string, want api.Value, errno api.Errno) {
	t.Helper()
	if v, e := Parse(s); !same(v, want) || e != errno {
		t.Errorf("Parse(%.100q) = %.100v, error %d, want %.100v, error %d", s, v, e, want, errno)
	}
	if v, e := parseOf(s); !same(v, want) || e != errno {
		t.Errorf("this file's own reader reads %.100q to %.100v, error %d, want %.100v, error %d", s, v, e, want, errno)
	}
}

// as holds Parse against this file's own reader, and what it has read against Print.
func as(t *testing.T, s string) {
	t.Helper()
	want, errno := parseOf(s)
	v, e := Parse(s)
	if !same(v, want) || e != errno {
		t.Errorf("Parse(%.100q) = %.100v, error %d, want %.100v, error %d", s, v, e, want, errno)
	}
	if e == api.OK && Check(v) != api.OK {
		t.Errorf("Parse(%.100q) is a value that may not be: %.100v, error %d", s, v, Check(v))
	}
	if e == api.OK && !stdjson.Valid([]byte(s)) {
		t.Errorf("Parse(%.100q) reads what is no JSON", s)
	}
}

// follows holds Js4 for a value: Parse of Print is the value.
func follows(t *testing.T, v api.Value) {
	t.Helper()
	printsAs(t, v)
	s, e := Print(v)
	if e != api.OK {
		return
	}
	if back, e := Parse(s); e != api.OK || !same(back, v) || !Same(back, v) {
		t.Errorf("Parse(Print(%.100v)) = %.100v, error %d", v, back, e)
	}
	if !stdjson.Valid([]byte(s)) {
		t.Errorf("Print(%.100v) = %.100q is no JSON", v, s)
	}
}

// grown calls f with all texts of up to so many parts behind a head.
func grown(head string, size int, parts []string, f func(s string)) {
	f(head)
	if size == 0 {
		return
	}
	for _, part := range parts {
		grown(head+part, size-1, parts, f)
	}
}

// sound is values that may be.
func sound() []api.Value {
	return []api.Value{
		{}, truth(0), truth(1), num(0), num(1), num(-1), num(math.MaxInt64), num(math.MinInt64), words(""), words("x"), words("\x00"), words("\uFFFD"), words("\U0010FFFF"), list(), {Kind: api.ValueList, List: []api.Value{}}, obj(),
		{Kind: api.ValueObject, List: []api.Value{}, Names: []string{}}, {Kind: api.ValueText, List: []api.Value{}, Names: []string{}}, list(api.Value{}), list(list(), obj()), obj("", list()), obj("a", num(1), "A", num(1), "b", words("x")),
		obj("\x00", api.Value{}, "é", api.Value{}, "e\u0301", api.Value{}), nest(16, num(1), words("x")), list(obj("a", num(1)), obj("a", num(1))), obj("a", obj("a", obj("a", num(0)))),
	}
}

// broken is values that may not be.
func broken() []api.Value {
	one := []api.Value{num(1)}
	return []api.Value{
		{Kind: -1}, {Kind: 6}, {Kind: math.MaxInt}, {Kind: math.MinInt}, {Kind: 1 << 32}, {Num: 1}, {Num: -1}, {Text: "x"}, {List: one}, {Names: []string{"x"}}, {Kind: 7, List: one},
		truth(2), truth(-1), truth(math.MinInt64), truth(1 << 32), {Kind: api.ValueBool, Text: "x"}, {Kind: api.ValueBool, Num: 1, Text: "x"}, {Kind: api.ValueBool, List: one}, {Kind: api.ValueBool, Names: []string{""}},
		{Kind: api.ValueNumber, Text: "1"}, {Kind: api.ValueNumber, Num: 5, List: one}, {Kind: api.ValueNumber, Names: []string{""}}, {Kind: api.ValueText, Num: 1}, {Kind: api.ValueText, Text: "x", Num: -1}, {Kind: api.ValueText, List: one}, {Kind: api.ValueText, Names: []string{"x"}},
		words("\xff"), words("x\xc3"), words("\xed\xa0\x80"), words("\xc0\x80"), words("\xf4\x90\x80\x80"),
		{Kind: api.ValueList, Num: 1}, {Kind: api.ValueList, Text: "x"}, {Kind: api.ValueList, Names: []string{"x"}}, {Kind: api.ValueList, List: one, Names: []string{"x"}},
		{Kind: api.ValueObject, Num: 1}, {Kind: api.ValueObject, Text: "x"}, {Kind: api.ValueObject, List: one}, {Kind: api.ValueObject, Names: []string{"x"}}, {Kind: api.ValueObject, List: one, Names: []string{"x", "y"}}, {Kind: api.ValueObject, List: append(one, one...), Names: []string{"x"}},
		obj("\xff", num(1)), obj("a", num(1), "b\xc3", num(1)), obj("a", num(1), "a", num(1)), obj("", num(1), "", num(2)), obj("a", num(1), "b", num(2), "c", num(3), "a", num(4)), obj("a", num(1), "b", list(), "b", list()),
	}
}

func TestJs1Check(t *testing.T) {
	for _, v := range sound() {
		checks(t, v, api.OK)
	}
	for _, v := range broken() {
		checks(t, v, api.ErrArg)
		printsAs(t, v)
		for _, around := range []api.Value{list(v), obj("a", v), list(num(1), list(), v), list(v, num(1)), obj("a", num(1), "b", v), nest(5, v), nest(15, v), list(list(), list(obj("a", list(v)), num(1)), num(1))} {
			checks(t, around, api.ErrArg)
			printsAs(t, around)
		}
	}
}

// Every kind with every part, there or not.
func TestJs1CheckParts(t *testing.T) {
	for kind := -2; kind < 9; kind++ {
		for _, n := range []int64{0, 1, 2, -1} {
			for _, s := range []string{"", "x", "\xff"} {
				for _, of := range [][]api.Value{nil, {}, {num(1)}, {num(1), words("y")}} {
					for _, names := range [][]string{nil, {}, {""}, {"a", "b"}, {"a", "a"}, {"a", "\xff"}} {
						printsAs(t, api.Value{Kind: kind, Num: n, Text: s, List: of, Names: names})
						printsAs(t, list(num(1), api.Value{Kind: kind, Num: n, Text: s, List: of, Names: names}))
					}
				}
			}
		}
	}
}

func TestJs1CheckBytes(t *testing.T) {
	for one := range 256 {
		for two := range 256 {
			s := string([]byte{byte(one), byte(two)})
			for _, v := range []api.Value{words(s), obj(s, num(1)), words("x" + s + "y")} {
				if e := Check(v); e != checkOf(v) {
					t.Fatalf("Check(%v) = error %d, want %d", v, e, checkOf(v))
				}
			}
		}
	}
}

func TestJs1Deep(t *testing.T) {
	for deep := 1; deep <= 20; deep++ {
		want := api.OK
		if deep > 16 {
			want = api.ErrDeep
		}
		checks(t, nest(deep), want)
		checks(t, nest(deep, num(1)), want)
		checks(t, obj("a", num(1), "b", nest(deep-1, words("x"))), map[bool]api.Errno{true: want, false: api.OK}[deep > 1])
		checks(t, nest(deep, truth(3)), api.ErrArg)
		follows(t, nest(deep, api.Value{}))
		v := obj()
		for range deep - 1 {
			v = obj("a", num(1), "b", v, "c", list())
		}
		printsAs(t, v)
		follows(t, v)
	}
	checks(t, list(nest(15), nest(15), num(1), nest(15)), api.OK)
	checks(t, list(nest(15), nest(16), nest(15)), api.ErrDeep)
	checks(t, list(nest(15), num(1), list(nest(14), list(nest(14)))), api.ErrDeep)
}

// flat is a list or an object of so many values, itself counted.
func flat(values int, kind int) api.Value {
	v := api.Value{Kind: kind}
	for i := range values - 1 {
		v.List = append(v.List, num(1))
		if kind == api.ValueObject {
			v.Names = append(v.Names, strconv.FormatInt(int64(i), 36)) // short, so that Print has room
		}
	}
	return v
}

func TestJs1Many(t *testing.T) {
	for values := 8189; values <= 8196; values++ {
		want := api.OK
		if values > 8192 {
			want = api.ErrLong
		}
		for _, kind := range []int{api.ValueList, api.ValueObject} {
			v := flat(values, kind)
			checkQuick := Check(v)
			if s, e := Print(v); checkQuick != want || e != want || (s == "") != (want != api.OK) {
				t.Errorf("of %d values: Check = error %d, Print = error %d, want %d", values, checkQuick, e, want)
			}
		}
		checks(t, list(flat(4000, api.ValueList), list(), flat(values-4003, api.ValueList), words("x")), map[bool]api.Errno{true: api.ErrLong, false: api.OK}[values > 8192])
	}
	empty := list()
	for range 8192 {
		empty.List = append(empty.List, list())
	}
	checks(t, empty, api.ErrLong)
	empty.List = empty.List[:8191]
	checks(t, empty, api.OK)
}

// ErrArg is named first, wherever it lies, then ErrDeep, then ErrLong.
func TestJs1Order(t *testing.T) {
	many, deep, wrong := flat(8193, api.ValueList), nest(17), truth(2)
	for _, c := range []struct {
		v api.Value
		e api.Errno
	}{
		{list(many, wrong), api.ErrArg}, {list(wrong, many), api.ErrArg}, {list(deep, wrong), api.ErrArg}, {list(wrong, deep), api.ErrArg}, {list(many, deep, wrong), api.ErrArg}, {list(many, deep), api.ErrDeep}, {list(deep, many), api.ErrDeep},
		{nest(40, wrong), api.ErrArg}, {list(many, nest(30, many, wrong)), api.ErrArg}, {list(many, nest(15, list())), api.ErrDeep}, {list(many, nest(15, num(1))), api.ErrLong}, {list(words(strings.Repeat("x", 70000)), deep), api.ErrDeep}, {list(words(strings.Repeat("x", 70000)), wrong), api.ErrArg}, {list(many, words("\xff")), api.ErrArg},
	} {
		checks(t, c.v, c.e)
		if s, e := Print(c.v); s != "" || e != c.e {
			t.Errorf("Print = %.20q, error %d, want %d", s, e, c.e)
		}
	}
}

func TestJs1Print(t *testing.T) {
	for _, v := range sound() {
		follows(t, v)
	}
	prints(t, api.Value{}, "null")
	prints(t, truth(0), "false")
	prints(t, truth(1), "true")
	prints(t, num(0), "0")
	prints(t, num(-10), "-10")
	prints(t, num(math.MinInt64), "-9223372036854775808")
	prints(t, num(math.MaxInt64), "9223372036854775807")
	prints(t, words(""), `""`)
	prints(t, words("a\"b\\c/d"), `"a\"b\\c/d"`)
	prints(t, words("\n\r\t\b\f\x00\x1f\x1b\x7f"), `"\n\r\t\u0008\u000c\u0000\u001f\u001b\u007f"`)
	prints(t, words("<>&'€\U0001F600\u2028\u0080\uFFFE"), "\"<>&'€\U0001F600\u2028\u0080\uFFFE\"")
	prints(t, list(), "[]")
	prints(t, list(num(1), list(), obj(), api.Value{}), "[1,[],{},null]")
	prints(t, obj(), "{}")
	prints(t, obj("a", list(num(1), num(-2), api.Value{})), `{"a":[1,-2,null]}`)
	prints(t, obj("b", num(1), "a", words("x"), "", obj("\"\n\x7f", truth(1))), `{"b":1,"a":"x","":{"\"\n\u007f":true}}`)
}

// Every rune that texts may have, in a text and in a name.
func TestJs1PrintRunes(t *testing.T) {
	for r := rune(0); r <= 0x10FFFF; r += 1 + r/3000 {
		s := string(r) // U+FFFD for surrogates
		for _, s := range []string{s, s + s, "x" + s + "y", s + "\n" + s} {
			want := quoted(s)
			if got, e := Print(words(s)); got != want || e != api.OK {
				t.Fatalf("Print(%q) = %q, error %d, want %q", s, got, e, want)
			}
			if got, e := Print(obj(s, num(1))); got != "{"+want+":1}" || e != api.OK {
				t.Fatalf("Print of name %q = %q, error %d", s, got, e)
			}
			if back, e := Parse(want); e != api.OK || !same(back, words(s)) {
				t.Fatalf("Parse(%q) = %q, error %d", want, back.Text, e)
			}
		}
	}
}

func TestJs1PrintLong(t *testing.T) {
	for size := 65530; size <= 65542; size++ {
		for _, v := range []api.Value{
			words(strings.Repeat("x", size-2)), list(words(strings.Repeat("x", size-4))), obj(strings.Repeat("n", size-6), num(1)), obj("a", words(strings.Repeat("€", 20)+strings.Repeat("x", size-68))), words(strings.Repeat("\n", 100) + strings.Repeat("x", size-202)),
			words(strings.Repeat("x", size-8) + "\x00"), list(words(strings.Repeat("x", size-7)), list()), list(words(strings.Repeat("x", size-9)), api.Value{}), obj("a", words(strings.Repeat("x", size-17)), "b", truth(1)), list(words(strings.Repeat("x", size-8)), num(-12)), list(words(strings.Repeat("x", size-13)), num(1), num(2), num(3), num(4)),
		} {
			printsAs(t, v)
			follows(t, v)
		}
		if s, e := Print(words(strings.Repeat("x", size-2))); (e == api.OK) != (size <= 65536) || size <= 65536 && len(s) != size || size > 65536 && (s != "" || e != api.ErrLong) {
			t.Errorf("Print of %d bytes: %d, error %d", size, len(s), e)
		}
	}
	for _, size := range []int{10921, 10922, 10923, 30000, 65536, 1 << 18} {
		printsAs(t, words(strings.Repeat("\x01", size)))
		printsAs(t, obj(strings.Repeat("\x7f", size), num(1)))
		printsAs(t, words(strings.Repeat("\"", size)))
	}
	// No short piece at the end makes up for a long one ahead.
	printsAs(t, list(words(strings.Repeat("x", 70000)), num(1)))
	printsAs(t, obj(strings.Repeat("x", 65530), words("yyyyyyyyyy"), "a", num(1)))
	for values := 3276; values <= 3282; values++ {
		long := list()
		for range values {
			long.List = append(long.List, num(math.MinInt64))
		}
		printsAs(t, long)
	}
}
