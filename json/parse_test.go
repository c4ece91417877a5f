package json

import (
	"math"
	"math/rand"
	"reflect"
	"runtime/debug"
	"strconv"
	"strings"
	"testing"
	"unsafe"

	"lantern/api"
)

func TestJs2Example(t *testing.T) {
	parses(t, `{"a":[1,-2,null]}`, obj("a", list(num(1), num(-2), api.Value{})))
	refuses(t, "1.0", api.ErrArg)
	refuses(t, "01", api.ErrText)
}

func TestJs2Parse(t *testing.T) {
	for s, want := range map[string]api.Value{
		"null": {}, "true": truth(1), "false": truth(0), "0": num(0), "-0": num(0), "7": num(7), "-7": num(-7), "10": num(10), "1234567890": num(1234567890),
		"9223372036854775807": num(math.MaxInt64), "-9223372036854775808": num(math.MinInt64), "-9223372036854775807": num(-math.MaxInt64),
		`""`: words(""), `"x"`: words("x"), `"null"`: words("null"), `"€😀"`: words("€\U0001F600"), "\"\x7f\u0080\u2028\uFFFE\"": words("\x7f\u0080\u2028\uFFFE"), `"'/<>"`: words("'/<>"),
		`"\"\\\/\b\f\n\r\t"`: words("\"\\/\b\f\n\r\t"), `"\u0000\u001F\u001f\u007f"`: words("\x00\x1f\x1f\x7f"), `"\u0041\u00e9\u00E9\u20ac\uFFFF"`: words("Aéé€\uFFFF"), `"\u005c\u0022"`: words("\\\""), `"\\u0041"`: words("\\u0041"), `"\\\u0041"`: words("\\A"),
		`"\ud83d\ude00"`: words("\U0001F600"), `"\uD83D\uDE00"`: words("\U0001F600"), `"\ud800\udc00\udbff\udfff"`: words("\U00010000\U0010FFFF"), `"\udbff\udc00\ud800\udfff"`: words("\U0010FC00\U000103FF"), `"x\ud83d\ude00y\n\ud83d\ude00"`: words("x\U0001F600y\n\U0001F600"), `"\ud7ff\ue000"`: words("\uD7FF\uE000"),
		"[]": list(), "[ ]": list(), "{}": obj(), "{ }": obj(), "[\t\n\r ]": list(), "[[]]": list(list()), "[{}]": list(obj()), "[1]": list(num(1)), "[1,2]": list(num(1), num(2)), "[true,false,null]": list(truth(1), truth(0), api.Value{}), `["a","b"]`: list(words("a"), words("b")), "[1,[2,[]],{}]": list(num(1), list(num(2), list()), obj()),
		" \t\r\n1 \t\r\n": num(1), " [ 1 , 2 ] ": list(num(1), num(2)), "\n{\n\"a\"\n:\n1\n,\n\"b\"\n:\n2\n}\n": obj("a", num(1), "b", num(2)), "[ -0 , [ ] ]": list(num(0), list()),
		`{"a":1}`: obj("a", num(1)), `{"b":1,"a":2}`: obj("b", num(1), "a", num(2)), `{"":{}}`: obj("", obj()), `{"a":1,"A":2}`: obj("a", num(1), "A", num(2)), `{"a":{"a":{"a":1}}}`: obj("a", obj("a", obj("a", num(1)))), `[{"a":1},{"a":2}]`: list(obj("a", num(1)), obj("a", num(2))),
		`{"\u0061":"\u0062"}`: obj("a", words("b")), `{"\ud83d\ude00\n":[]}`: obj("\U0001F600\n", list()), `{"a":[{"b":null}],"c":"d"}`: obj("a", list(obj("b", api.Value{})), "c", words("d")), `{"é":1,"e\u0301":2}`: obj("é", num(1), "e\u0301", num(2)), `{"a\u0000":1,"a":2}`: obj("a\x00", num(1), "a", num(2)),
	} {
		parses(t, s, want)
		parses(t, " "+s+"\n", want)
		parses(t, "["+s+"]", list(want))
		parses(t, "[0,"+s+" , 1]", list(num(0), want, num(1)))
		parses(t, `{"x":`+s+`}`, obj("x", want))
		parses(t, `{ "x" : `+s+` , "y":`+s+`}`, obj("x", want, "y", want))
	}
}

func TestJs2Refuses(t *testing.T) {
	for _, s := range []string{
		"", " ", "x", "nul", "nulL", "Null", "NULL", "nullx", "null null", "n", "tru", "True", "truee", "fals", "falsy", "undefined", "NaN", "Infinity", "-Infinity", "'x'", "`x`", "\ufeff1", "1\ufeff", "\u00a01", "1\u00a0", "\v1", "\f1", "1\x00", "\x001", "// x\n1", "/**/1", "1#",
		"-", "--1", "+1", "- 1", "-x", "01", "00", "-01", "-00", "0x10", "0b1", "1_000", "1 2", "1,", ",1", ".5", "-.5", "1.", "0.", "1.e5", "1.x", "1e", "1E", "1e+", "1e-", "1.5e", "1.5e+", "1.5ex", "1e+-1", "1e 5", "1e.5", "0e", "1ex", "9223372036854775808.", "9223372036854775808e", "٣", "１", "99999999999999999999e+",
		`"`, `"x`, `x"`, `""x`, `"""`, `"\"`, `"\`, `"\x"`, `"\a"`, `"\v"`, `"\0"`, `"\'"`, `"\N"`, `"\U0041"`, `"\ "`, "\"\\\n\"", "\"\n\"", "\"\t\"", "\"\r\"", "\"\x00\"", "\"\x1f\"", "\"x\x01y\"", `"\u"`, `"\u1"`, `"\u12"`, `"\u123"`, `"\u123`, `"\u123"4"`, `"\u123g"`, `"\u 123"`, `"\u+123"`, `"\u-123"`, `"\u0x12"`, `"\u1_23"`, `"\u{41}"`, `"\u004`, `"\u0041`, `"\é"`, `"\u00é1"`, `"\u`, `"\u00`,
		`"\ud800"`, `"\udc00"`, `"\ud800x"`, `"\ud800\n"`, `"\ud800\\udc00"`, `"\ud800\ud800"`, `"\ud800\u0041"`, `"\udc00\ud800"`, `"\udc00\udc00"`, `"\ud800\udbff"`, `"\ud800\ue000"`, `"\udfff"`, `"\uDBFF"`, `"\ud800`, `"\ud800\`, `"\ud800\u`, `"\ud800\udc0`, `"\ud800\udc00\udc00"`, `"\ud800\udc0g"`, `"\ud800 \udc00"`, `"\ud83dude00"`, `"\ud83d"`, `"\ud800dc00"`, `"\ud800\\udc00"`, `"\ud800\U00DC"`, `"\ud800""\udc00"`, `"\ud800\u"dc00"`, `"\ud7ff\udc00"`, `"\ue000\udc00"`,
		"[", "]", "[1", "[1,", "[1,]", "[,]", "[,1]", "[1,,2]", "[1 2]", "[1;2]", "[]]", "[[]", "[1}", "[}", "[\"a\":1]", "[1]1", "[][]", "[1],", "[x]", "[1,x]", "[1 x", "[null", "[nul]", "[\"]", "[-]", "[:]",
		"{", "}", "{]", "{\"a\"}", "{\"a\":}", "{\"a\":1", "{\"a\":1,", "{\"a\":1,}", "{,}", "{,\"a\":1}", "{\"a\" 1}", "{\"a\",1}", "{\"a\"::1}", "{\"a\":1:2}", "{\"a\":1 \"b\":2}", "{\"a\":1,,\"b\":2}", "{a:1}", "{'a':1}", "{1:1}", "{null:1}", "{[]:1}", "{\"a\":1]", "{\"a\":1}}", "{}{}", "{\"a\"", "{\"a\":", "{\"a", "{\"\\ud800\":1}", "{\"a\n\":1}", "{:1}", "{\"a\":1;\"b\":2}", "{\"a\"=1}", "{\"a\":x}",
		`{"a":1,"a":1}`, `{"a":1,"b":2,"a":3}`, `{"a":1,"\u0061":1}`, `{"":1,"":2}`, `{"a":{},"b":{"c":1,"c":1}}`, `{"\n":1,"\u000A":2}`, `{"😀":1,"\ud83d\ude00":1}`, `[{"a":1,"a"`,
	} {
		refuses(t, s, api.ErrText)
		as(t, "["+s)
		as(t, "[1,"+s+"]")
		as(t, `{"x":`+s+"}")
		as(t, `{"x`+s)
	}
	for _, s := range []string{"\xff", "\"\xff\"", "\"\xc3", "1\xff", "\xff1", "[\xe2\x82]", "{\"\xff\":1}", "\"\xed\xa0\x80\"", "\"\xc0\x80\"", "1.5\xff", strings.Repeat("[", 17) + "\xff", "01\xff", "[" + strings.Repeat("1,", 9000) + "\xff"} {
		refuses(t, s, api.ErrText)
	}
}

// A number that is none of JSON's is ErrText; one of JSON's that is not whole is ErrArg, and told behind it.
func TestJs2NotWhole(t *testing.T) {
	for _, s := range []string{
		"1.0", "0.0", "-0.0", "1.5", "-1.5", "0.10", "12.345", "1e5", "1E5", "1e+5", "1e-5", "1e05", "0e0", "-0e0", "1.0e5", "1.5E+10", "0.0e-00", "1e0", "-1E00", "9223372036854775808", "-9223372036854775809", "9223372036854775810", "18446744073709551615", "18446744073709551616", "99999999999999999999", "-99999999999999999999", "1" + strings.Repeat("0", 400), "-" + strings.Repeat("9", 60000), "1e999999999", "0." + strings.Repeat("0", 400) + "1", "1.0e" + strings.Repeat("9", 400), "99999999999999999999.5", "99999999999999999999e5",
	} {
		for _, behind := range []string{"", " ", "]", ",", "x", "1x", "-", ":", "}", "\"", "\n", "[", "null", " 1", "\x00", "é", "+", "_"} {
			want := api.ErrArg
			if behind == "1x" && strings.TrimLeft(s, "-0") == "" {
				want = api.ErrText
			}
			refuses(t, s+behind, want)
			refuses(t, "["+s+behind, want)
			refuses(t, `[0,{"a":`+s+behind, want)
		}
	}
	// One behind whose fraction another point stands, or behind whose exponent another stands, has ended there.
	for _, s := range []string{"1.5.", "1.5.5", "1e5.", "1e5e", "1e5e5", "1.5e5.", "1.5e5e5", "1e5E+"} {
		refuses(t, s, api.ErrArg)
	}
	// What is wrong first is told.
	for _, s := range []string{"[01,1.5]", "[x,1.5]", "[1 1.5]", `{"a":1,"a":1.5}`, `{"a":1,"a"1.5}`, `{1.5:1}`, "[1,]1.5", "[]1.5", `["\x",1.5]`, "[1..5]", "1 1.5", "[1;1.5]", "[-,1.5]", "[0,01.5]", "[00.5]", "-01.5", "[.5,1.5]"} {
		refuses(t, s, api.ErrText)
	}
	for _, s := range []string{"[1.5,01]", "[1.5,x]", "[1.5 1]", `{"a":1.5,"a":1}`, "[1.5,]", "1.5 1", "[1.5", "[1.5]]", `{"a":1.5x`, "[1.5" + pile(20), "[1e5," + strings.Repeat("1,", 9000)} {
		refuses(t, s, api.ErrArg)
	}
}

// Numbers of all lengths around the greatest ones.
func TestJs2Numbers(t *testing.T) {
	for _, edge := range []uint64{0, 1, 9, 10, math.MaxInt32, math.MaxUint32, math.MaxInt64, 1 << 63, math.MaxUint64 - 4} {
		for more := range uint64(9) {
			digits := strconv.FormatUint(edge+more-4, 10)
			for _, s := range []string{digits, "-" + digits, digits + "0", "-" + digits + "0", "0" + digits, "-0" + digits, digits + ".0", digits + "e0", digits + "."} {
				as(t, s)
			}
		}
	}
	chance := rand.New(rand.NewSource(16))
	for range 20000 {
		n := int64(chance.Uint64()) >> chance.Intn(64)
		parses(t, strconv.FormatInt(n, 10), num(n))
	}
}

// pile is so many lists that are begun within each other.
func pile(deep int) string { return strings.Repeat("[", deep) }

func TestJs2Deep(t *testing.T) {
	for deep := 1; deep <= 20; deep++ {
		whole := pile(deep) + strings.Repeat("]", deep)
		objects := strings.Repeat(`{"a":`, deep-1) + "{" + strings.Repeat("}", deep)
		mixed := strings.Repeat(`[{"a":`, deep/2) + "1" + strings.Repeat("}]", deep/2)
		as(t, mixed)
		if deep <= 16 {
			v, e := Parse(whole)
			if e != api.OK || Check(v) != api.OK {
				t.Errorf("Parse(%q): error %d", whole, e)
			}
			as(t, whole)
			as(t, objects)
			refuses(t, pile(deep), api.ErrText)
			as(t, pile(deep)+`1,"x"`+strings.Repeat("]", deep))
			continue
		}
		for _, s := range []string{whole, pile(deep), objects, strings.Repeat(`{"a":`, deep-1) + "[", strings.Repeat("[1,", deep), strings.Repeat("[[],", deep), pile(16) + "{", pile(16) + " {x", pile(16) + "1,[", pile(16) + "1,{}", pile(17) + "1.5", pile(17) + "x"} {
			refuses(t, s, api.ErrDeep)
		}
	}
	for _, s := range []string{"]x", "x", "]]]", ",", "1 [", "1,", "1,]", "\"a\":[", "}", "\"[", "nul[", "1[", "]["} {
		refuses(t, pile(16)+s, api.ErrText)
	}
	refuses(t, pile(16)+"1.5[", api.ErrArg)
	refuses(t, "[1.5,"+pile(16), api.ErrArg)
	refuses(t, "[01,"+pile(16), api.ErrText)
	refuses(t, `{"a":1,"a":`+pile(16), api.ErrText)
	refuses(t, `{"a":1,"b":`+pile(16), api.ErrDeep)
	// Those that have ended don't count.
	refuses(t, "["+nested(15)+","+pile(16), api.ErrDeep)
	refuses(t, "["+nested(15)+","+pile(15)+"x", api.ErrText)
	parses(t, "["+nested(15)+","+nested(15)+"]", list(lists(15), lists(15)))
	parses(t, `{"a":`+nested(15)+`,"b":`+nested(15)+"}", obj("a", lists(15), "b", lists(15)))
	parses(t, "["+strings.Repeat("[],{},", 40)+"1]", func() api.Value {
		v := list()
		for range 40 {
			v.List = append(v.List, list(), obj())
		}
		v.List = append(v.List, num(1))
		return v
	}())
}

func nested(deep int) string { return pile(deep) + strings.Repeat("]", deep) }

func lists(deep int) api.Value {
	v := list()
	for range deep - 1 {
		v = list(v)
	}
	return v
}

// full is a list that is open, of so many values till now, itself counted, and then what is handed in.
func full(values int, behind string) string {
	return "[" + strings.Repeat("1,", values-1) + behind
}

// tells holds what Parse tells of what may not be read, without this file's own reader, which takes its time.
func tells(t *testing.T, s string, want api.Errno) {
	t.Helper()
	if v, e := Parse(s); e != want || !reflect.DeepEqual(v, api.Value{}) {
		t.Errorf("Parse of %d bytes, the last %q: %.100v, error %d, want %d", len(s), s[len(s)-20:], v, e, want)
	}
}

func TestJs2Many(t *testing.T) {
	for _, c := range []struct {
		adds int // so many values
		s    string
	}{{1, "1"}, {1, "-1"}, {1, `"x"`}, {1, "null"}, {1, "true"}, {1, "false"}, {1, "[]"}, {1, "{}"}, {2, "[1]"}, {2, `{"a":1}`}, {3, `{"a":1,"b":2}`}, {3, "[[],[]]"}, {4, `[{"a":{}},1]`}, {3, "1,2,3"}, {5, "[1,2,3,4]"}, {3, "[ ] , 0, {}"}} {
		as(t, full(8192-c.adds, c.s))
		as(t, full(8193-c.adds, c.s))
		if v, e := Parse(full(8192-c.adds, c.s+"]")); e != api.OK || Check(v) != api.OK {
			t.Errorf("Parse of 8192 values, the last %q: error %d", c.s, e)
		}
		if _, e := Parse(full(8193-c.adds, c.s+"]")); e != api.ErrLong {
			t.Errorf("Parse of 8193 values, the last %q: error %d, want ErrLong", c.s, e)
		}
	}
	// One that is too many is told at its first byte.
	for _, s := range []string{"1", "1x", "01", "-", "-x", "1.5", "9e9", "[", "[x", "{", "{x", `"`, `"\x"`, "\"\n", "n", "nul", "t", "f", " \t\r\n1", "null", "[[[[", "0", "9223372036854775808"} {
		tells(t, full(8192, s), api.ErrLong)
		tells(t, full(8191, "1,"+s), api.ErrLong)
		tells(t, full(8191, "["+s), api.ErrLong)
		tells(t, full(8191, `{"a":`+s), api.ErrLong)
		tells(t, full(8190, `{"a":1, "b" : `+s), api.ErrLong)
	}
	for _, s := range []string{"", " ", "]", "}", ",", "x", "+1", ".5", ":", "\\", "'", "é", "\x00", "N", "T", "F", "I", "/", "\ufeff1", "*", "(", "a"} {
		tells(t, full(8192, s), api.ErrText)
	}
	// Names are none.
	tells(t, full(8190, `{"a":1,"b"`), api.ErrText)
	tells(t, full(8190, `{"a":1,"b":`), api.ErrText)
	tells(t, full(8190, `{"a":1,"a":1`), api.ErrText)
	tells(t, full(8190, `{"a":1,"b":1`), api.ErrLong)
	tells(t, full(8190, `1.5,1,1`), api.ErrArg)
	tells(t, full(8190, `01,1,1`), api.ErrText)
	// Too many is told where too deep would be, too; where it is not too many yet, too deep is.
	tells(t, "["+strings.Repeat("1,", 8192-16)+pile(15)+"[", api.ErrLong)
	tells(t, "["+strings.Repeat("1,", 8192-16)+pile(15)+"{", api.ErrLong)
	tells(t, "["+strings.Repeat("1,", 8192-17)+pile(15)+"[", api.ErrDeep)
	tells(t, "["+strings.Repeat("1,", 8192-17)+pile(15)+"{", api.ErrDeep)
	tells(t, "["+strings.Repeat("1,", 8192-17)+pile(15)+"1,[", api.ErrLong)
	tells(t, "["+strings.Repeat("1,", 8192-15)+pile(15)+"[", api.ErrLong)
	objects := strings.TrimSuffix(strings.Repeat("{},", 8191), ",")
	as(t, "["+objects+"]")
	as(t, "["+objects+",{}]")
}

func TestJs2Long(t *testing.T) {
	for size := 65530; size <= 65542; size++ {
		for _, s := range []string{
			`"` + strings.Repeat("x", size-2) + `"`, strings.Repeat(" ", size-1) + "1", "1" + strings.Repeat("\n", size-1), strings.Repeat("1", size), strings.Repeat(" ", size), "[" + strings.Repeat(" ", size-2) + "]", "1.5" + strings.Repeat(" ", size-3), strings.Repeat("[", size), "\xff" + strings.Repeat("x", size-1), strings.Repeat("\x00", size), "[" + strings.Repeat("1,", 9000) + strings.Repeat(" ", size-18001), `"` + strings.Repeat("é", (size-2)/2) + `"`, strings.Repeat("x", size),
		} {
			as(t, s)
			if _, e := Parse(s); len(s) > 65536 && e != api.ErrLong {
				t.Errorf("Parse of %d bytes: error %d", len(s), e)
			}
		}
	}
}

func TestJs2EveryByte(t *testing.T) {
	for c := range 256 {
		for _, frame := range []string{
			"%", "%1", "1%", "-%", "0%", "1.%", "1.5%", "1e%", "1e+%", "1e5%", "1%5", "%null", "n%ll", "nul%", "null%", "t%ue", "true%", "fals%", `"%"`, `%""`, `""%`, `"x%y"`, `"\%"`, `"\u%041"`, `"\u0%41"`, `"\u00%1"`, `"\u004%"`, `"\u%%%%"`, `"\ud%00"`, `"\ud8%0\udc00"`, `"\ud800\ud%00"`, `"\ud800%udc00"`, `"\ud800\%dc00"`, `"\ud800\u%c00"`, `"\ud800\udc00%"`,
			"[%]", "[1%]", "[1%2]", "[1,%]", "[%1]", "%[]", "[]%", "[1,%2]", "[[]%[]]", "[[]%", "{%}", `{%"a":1}`, `{"%":1}`, `{"a"%:1}`, `{"a"%1}`, `{"a":%1}`, `{"a":%}`, `{"a":1%}`, `{"a":1%"b":2}`, `{"a":1,%"b":2}`, `{"a":1,"%":2}`, `{"a":1,"b%":2}`, `{"a":1}%`, "[\"a%b\",\"\\n\"]",
		} {
			as(t, strings.ReplaceAll(frame, "%", string([]byte{byte(c)})))
			as(t, strings.ReplaceAll(frame, "%", string(rune(c))))
		}
	}
}

// Every unit of a \u, by itself, behind a high half and ahead of a low one.
func TestJs2Units(t *testing.T) {
	const digits = "0123456789abcdefABCDEF"
	for unit := 0; unit < 1<<16; unit += 1 + unit%7 {
		u := `\u` + strconv.FormatInt(int64(unit|1<<16), 16)[1:]
		if unit%2 == 0 {
			u = `\u` + strings.ToUpper(u[2:])
		}
		for _, s := range []string{u, `\ud800` + u, u + `\udfff`, u + "x", `\ud800` + u + `\udc00`} {
			as(t, `"`+s+`"`)
		}
	}
	for _, high := range []int{0xD7FF, 0xD800, 0xD801, 0xDABC, 0xDBFE, 0xDBFF, 0xDC00, 0xDC01, 0xDFFF, 0xE000} {
		for _, low := range []int{0xD7FF, 0xD800, 0xDBFF, 0xDC00, 0xDC01, 0xDDEF, 0xDFFE, 0xDFFF, 0xE000} {
			as(t, `"\u`+strconv.FormatInt(int64(high), 16)+`\u`+strconv.FormatInt(int64(low), 16)+`"`)
		}
	}
	for _, one := range digits {
		for _, two := range digits {
			as(t, `"\u`+strings.Repeat(string(one)+string(two), 2)+`"`)
		}
	}
}

func TestJs2Grown(t *testing.T) {
	f := func(s string) { as(t, s) }
	grown("", 6, []string{"[", "]", "{", "}", ",", ":", "1", `"a"`}, f)
	grown("[", 5, []string{"]", "}", ",", "1", "-", "0", ".", "e", "+", " "}, f)
	grown("", 6, []string{"-", "0", "1", ".", "e", "E", "+", "9223372036854775807"}, f)
	grown(`{"a"`, 6, []string{":", ",", "}", `"a"`, `"\u0061b"`, "null", " "}, f)
	grown(`"`, 5, []string{`\`, `"`, "u", "n", "0041", "d800", `\udc00`, `\ud800`, "\n", "/"}, f)
}

func samples() []string {
	return []string{
		"null", `{"a":[1,-2,null]}`, " {\"a\" : [1, -2, null, true], \"b\":\"\\u20ac\\ud83d\\ude00\\n\"} ", `{"id":1,"url":"http://a/","private":false,"title":"A \"b\""}`, `["",0,-0,{},[],[[]],{"":{"":""}}]`, "[\"\xe2\x82\xac\",\"\\\\\\/\",9223372036854775807,-9223372036854775808]",
		pile(15) + `{"a":1,"b":"x"}` + strings.Repeat("]", 15), "{\"lines\":[{\"at\":1,\"sub\":1,\"code\":8,\"url\":\"http://0x7f.1/\"}]}", "[1.5,1e5]", `{"a":1,"b":2,"a":3}`,
	}
}

func TestJs2Changed(t *testing.T) {
	for _, s := range samples() {
		as(t, s)
		for i := range len(s) {
			as(t, s[:i])
			as(t, s[i:])
			as(t, s[:i]+s[i+1:])
			as(t, s[:i]+s[i:i+1]+s[i:])
			for c := range 128 {
				as(t, s[:i]+string(rune(c))+s[i+1:])
				as(t, s[:i]+string(rune(c))+s[i:])
			}
			as(t, s[:i]+"\xff"+s[i+1:])
			as(t, s[:i]+"\xff"+s[i:])
		}
	}
}

func TestJs2Mixed(t *testing.T) {
	chance := rand.New(rand.NewSource(61))
	parts := []string{"[", "]", "{", "}", ",", ",", ":", `"a":`, `"b":`, `"a"`, "1", "-0", "null", "true", "false", " ", "\n", `"\u20ac"`, `"\ud83d\ude00"`, "[]", "{}", `"x y"`, "1.5", "01", `"\ud800"`, "x", "9223372036854775808", "\xff"}
	for range 60000 {
		var s strings.Builder
		few := len(parts) - chance.Intn(8)
		for range chance.Intn(14) {
			s.WriteString(parts[chance.Intn(few)])
		}
		as(t, s.String())
		as(t, `[{"c":`+s.String()+"}]")
	}
}

// spread puts white between the parts of what Print has put together, by chance.
func spread(chance *rand.Rand, s string) string {
	var out strings.Builder
	inText := false
	for i := range len(s) {
		mark := strings.IndexByte("[]{},:", s[i]) >= 0 && !inText
		white := func() {
			for mark && chance.Intn(3) == 0 {
				out.WriteByte(" \t\n\r"[chance.Intn(4)])
			}
		}
		white()
		out.WriteByte(s[i])
		white()
		behind := len(s[:i]) - len(strings.TrimRight(s[:i], `\`))
		if s[i] == '"' && behind%2 == 0 {
			inText = !inText
		}
	}
	return out.String()
}

// chanceValue is one that may be, by chance.
func chanceValue(chance *rand.Rand, deep int) api.Value {
	texts := []string{"", "x", " ", "\n", "\t", "\r", "\"", "\\", "\\u0041", "/", "€", "\U0001F600", "\uFFFD", "\x00", "\x1f", "\x7f", "\b", "[", "]", "{", ",", ":", "null", "1"}
	some := func(size int) (s string) {
		for range size {
			s += texts[chance.Intn(len(texts))]
		}
		return s
	}
	kinds := 6
	if deep > 16 {
		kinds = 4
	}
	switch v := (api.Value{Kind: chance.Intn(kinds)}); v.Kind {
	case api.ValueBool:
		return truth(chance.Int63n(2))
	case api.ValueNumber:
		return num(int64(chance.Uint64()) >> chance.Intn(64))
	case api.ValueText:
		return words(some(chance.Intn(5)))
	case api.ValueList:
		for range chance.Intn(5) {
			v.List = append(v.List, chanceValue(chance, deep+1+chance.Intn(5)))
		}
		return v
	case api.ValueObject:
		for i := range chance.Intn(5) {
			v.Names = append(v.Names, some(chance.Intn(3))+strconv.Itoa(i)) // no two end alike
			v.List = append(v.List, chanceValue(chance, deep+1+chance.Intn(5)))
		}
		return v
	default:
		return v
	}
}

func TestJs4Chance(t *testing.T) {
	chance := rand.New(rand.NewSource(4))
	for range 6000 {
		v := chanceValue(chance, 1)
		follows(t, v)
		s, e := Print(v)
		if e != api.OK {
			continue
		}
		parses(t, s, v)
		parses(t, spread(chance, s), v)
		back, _ := Parse(spread(chance, s))
		if again, e := Print(back); again != s || e != api.OK {
			t.Errorf("Print(Parse(%q)) = %q, error %d", s, again, e)
		}
	}
}

func TestJs3Get(t *testing.T) {
	v := obj("a", num(1), "b", words("x"), "", list(num(2), obj("a", num(3))), "A", api.Value{}, "\xff", truth(1), "é", obj("b", words("y")))
	v.Names = append(v.Names, "a", "b")
	v.List = append(v.List, words("second"), num(9))
	for name, want := range map[string]api.Value{"a": num(1), "b": words("x"), "": v.List[2], "A": {}, "\xff": truth(1), "é": obj("b", words("y"))} {
		got, ok := Get(v, name)
		if !ok || !same(got, want) {
			t.Errorf("Get(%q) = %v, %v, want %v", name, got, ok, want)
		}
	}
	for _, name := range []string{"c", "aa", "B", "a ", "\x00", "e\u0301", "y", "xx"} {
		if got, ok := Get(v, name); ok || !reflect.DeepEqual(got, api.Value{}) {
			t.Errorf("Get(%q) = %v, %v, want none", name, got, ok)
		}
	}
	for kind := -2; kind < 9; kind++ {
		of := api.Value{Kind: kind, Num: 1, Text: "a", List: []api.Value{num(1)}, Names: []string{"a"}}
		got, ok := Get(of, "a")
		if ok != (kind == api.ValueObject) || ok && !same(got, num(1)) || !ok && !reflect.DeepEqual(got, api.Value{}) {
			t.Errorf("Get of kind %d = %v, %v", kind, got, ok)
		}
	}
	// What may not be can have more names than values, or less.
	for names := range 4 {
		for values := range 4 {
			some := api.Value{Kind: api.ValueObject, List: []api.Value{num(0), num(1), num(2)}[:values], Names: []string{"0", "1", "2"}[:names]}
			for i := range 4 {
				got, ok := Get(some, strconv.Itoa(i))
				if want := i < names && i < values; ok != want || want && !same(got, num(int64(i))) {
					t.Errorf("of %d names and %d values: Get(%d) = %v, %v", names, values, i, got, ok)
				}
				n, e := Number(some, strconv.Itoa(i))
				if want := i < names && i < values; (e == api.OK) != want || want && n != int64(i) || !want && (e != api.ErrNone || n != 0) {
					t.Errorf("of %d names and %d values: Number(%d) = %d, error %d", names, values, i, n, e)
				}
			}
		}
	}
	// It is told as it is, though it may not be.
	for _, one := range broken() {
		if got, ok := Get(obj("a", num(1), "b", one), "b"); !ok || !same(got, one) {
			t.Errorf("Get of %v = %v, %v", one, got, ok)
		}
	}
	for _, one := range sound() {
		if got, ok := Get(obj("a", num(1), "b", one), "b"); !ok || !same(got, one) {
			t.Errorf("Get of %v = %v, %v", one, got, ok)
		}
	}
}

func TestJs3TextNumber(t *testing.T) {
	v := obj("null", api.Value{}, "false", truth(0), "true", truth(1), "number", num(-5), "nought", num(0), "least", num(math.MinInt64), "text", words("x\x00€"), "empty", words(""), "list", list(words("x")), "object", obj("text", words("y"), "number", num(3)))
	for i, name := range v.Names {
		one := v.List[i]
		s, e := Text(v, name)
		if want := map[bool]api.Errno{true: api.OK, false: api.ErrArg}[one.Kind == api.ValueText]; e != want || e == api.OK && s != one.Text || e != api.OK && s != "" {
			t.Errorf("Text(%q) = %q, error %d", name, s, e)
		}
		n, e := Number(v, name)
		if want := map[bool]api.Errno{true: api.OK, false: api.ErrArg}[one.Kind == api.ValueNumber]; e != want || e == api.OK && n != one.Num || e != api.OK && n != 0 {
			t.Errorf("Number(%q) = %d, error %d", name, n, e)
		}
	}
	for _, name := range []string{"", "Text", "text ", "x", "y", "\xff"} {
		if s, e := Text(v, name); s != "" || e != api.ErrNone {
			t.Errorf("Text(%q) = %q, error %d, want ErrNone", name, s, e)
		}
		if n, e := Number(v, name); n != 0 || e != api.ErrNone {
			t.Errorf("Number(%q) = %d, error %d, want ErrNone", name, n, e)
		}
	}
	for _, one := range append(sound(), broken()...) {
		if one.Kind == api.ValueObject {
			continue
		}
		if s, e := Text(one, "x"); s != "" || e != api.ErrNone {
			t.Errorf("Text of %v = %q, error %d", one, s, e)
		}
		if n, e := Number(one, "x"); n != 0 || e != api.ErrNone {
			t.Errorf("Number of %v = %d, error %d", one, n, e)
		}
	}
	// The first of that name counts, and a kind that is none is neither.
	twice := obj("a", words("x"), "a", num(1), "b", num(2), "b", words("y"), "c", api.Value{Kind: 9, Num: 3, Text: "z"}, "d", api.Value{Kind: -1})
	for name, want := range map[string]string{"a": "x", "b": "", "c": "", "d": ""} {
		if s, e := Text(twice, name); s != want || (e == api.OK) != (want != "") || want == "" && e != api.ErrArg {
			t.Errorf("Text(%q) = %q, error %d, want %q", name, s, e, want)
		}
	}
	for name, want := range map[string]int64{"a": 0, "b": 2, "c": 0, "d": 0} {
		if n, e := Number(twice, name); n != want || (e == api.OK) != (want != 0) || want == 0 && e != api.ErrArg {
			t.Errorf("Number(%q) = %d, error %d, want %d", name, n, e, want)
		}
	}
}

// steps is values, and some that differ from them in one part each.
func steps() []api.Value {
	values := append(sound(), broken()...)
	for _, v := range append([]api.Value{}, values...) {
		for range 2 {
			values = append(values, list(v), list(v, v), obj("a", v), obj("b", v), obj("a", num(1), "b", v), list(list(v), num(1)))
			v = list(num(1), v)
		}
	}
	return append(values, obj("a", num(1), "b", num(2)), obj("b", num(2), "a", num(1)), obj("a", num(2), "b", num(1)), list(num(1), num(2)), list(num(2), num(1)), list(num(1)), list(num(1), num(2), num(3)))
}

func TestJs3Same(t *testing.T) {
	values := steps()
	for _, a := range values {
		for _, b := range values {
			if got := Same(a, b); got != same(a, b) {
				t.Errorf("Same(%v, %v) = %v", a, b, got)
			}
		}
		if !Same(a, rebuilt(a)) || !Same(rebuilt(a), a) {
			t.Errorf("Same of %v and what is built like it tells false", a)
		}
	}
	chance := rand.New(rand.NewSource(3))
	for range 3000 {
		a := chanceValue(chance, 1)
		b := rebuilt(a)
		if !Same(a, b) {
			t.Errorf("Same(%v, %v) tells false", a, b)
		}
		turn(chance, &b)
		if Same(a, b) || Same(b, a) {
			t.Errorf("Same(%v, %v) tells true", a, b)
		}
	}
}

// turn changes one part of a value, or of one in it.
func turn(chance *rand.Rand, v *api.Value) {
	if len(v.List) > 0 && chance.Intn(4) > 0 {
		turn(chance, &v.List[chance.Intn(len(v.List))])
		return
	}
	switch chance.Intn(5) {
	case 0:
		v.Kind++
	case 1:
		v.Num ^= 1 << chance.Intn(64)
	case 2:
		v.Text += "x"
	case 3:
		v.List = append(v.List, api.Value{})
	case 4:
		v.Names = append(v.Names, "")
	}
}

// A span is memory that a list or a text lies in.
type span struct{ from, to uintptr }

// spans is where a list of values and all lists in it lie, their spare room too, and where their texts do.
func spans(values []api.Value) (lists, texts []span) {
	if cap(values) > 0 {
		at := uintptr(unsafe.Pointer(unsafe.SliceData(values)))
		lists = append(lists, span{at, at + uintptr(cap(values))*unsafe.Sizeof(api.Value{})})
	}
	for _, v := range values {
		texts = append(texts, spanOf(v.Text))
		for _, name := range v.Names {
			texts = append(texts, spanOf(name))
		}
		if cap(v.Names) > 0 {
			at := uintptr(unsafe.Pointer(unsafe.SliceData(v.Names)))
			lists = append(lists, span{at, at + uintptr(cap(v.Names))*unsafe.Sizeof("")})
		}
		more, moreTexts := spans(v.List)
		lists, texts = append(lists, more...), append(texts, moreTexts...)
	}
	return lists, texts
}

func spanOf(s string) span {
	at := uintptr(unsafe.Pointer(unsafe.StringData(s)))
	return span{at, at + uintptr(len(s))}
}

func apart(x, y span) bool {
	return x.from >= y.to || y.from >= x.to || x.from == x.to || y.from == y.to
}

// fresh holds that what is answered shares no memory with what was handed in, no two lists of it any,
// and that its spare room is empty.
func fresh(t *testing.T, answer []api.Value, given []api.Value, texts ...string) {
	t.Helper()
	list, said := spans(answer)
	givenLists, givenTexts := spans(given)
	for _, s := range texts {
		givenTexts = append(givenTexts, spanOf(s))
	}
	for i, x := range list {
		for _, y := range append(append([]span{}, list[:i]...), givenLists...) {
			if !apart(x, y) {
				t.Errorf("a list of %.100v shares memory", answer)
			}
		}
	}
	for _, x := range said {
		for _, y := range givenTexts {
			if !apart(x, y) {
				t.Errorf("a text of %.100v shares memory", answer)
			}
		}
	}
	for _, v := range answer {
		spare(t, v)
	}
}

func spare(t *testing.T, v api.Value) {
	t.Helper()
	for _, one := range v.List[len(v.List):cap(v.List)] {
		if !reflect.DeepEqual(one, api.Value{}) {
			t.Errorf("behind a list's end lies %v", one)
		}
	}
	for _, name := range v.Names[len(v.Names):cap(v.Names)] {
		if name != "" {
			t.Errorf("behind the names' end lies %q", name)
		}
	}
	for _, one := range v.List {
		spare(t, one)
	}
}

// rebuilt is a value that shares nothing, with room behind its lists that is filled.
func rebuilt(v api.Value) api.Value {
	w := api.Value{Kind: v.Kind, Num: v.Num, Text: strings.Clone(v.Text)}
	for _, one := range v.List {
		w.List = append(w.List, rebuilt(one))
	}
	for _, name := range v.Names {
		w.Names = append(w.Names, strings.Clone(name))
	}
	w.List = append(w.List, words("behind"))[:len(w.List)]
	w.Names = append(w.Names, "behind")[:len(w.Names)]
	return w
}

func TestR3Apart(t *testing.T) {
	v := rebuilt(obj("some name", words("some text"), "list", list(words("one"), obj("two", words("three"), "four", list()), list(list(num(1)))), "object", obj("five", words("six"), "seven", num(8)), "number", num(9)))
	kept := rebuilt(v)
	for _, name := range v.Names {
		name = strings.Clone(name)
		found, _ := Get(v, name)
		fresh(t, []api.Value{found}, []api.Value{v}, name)
	}
	s, _ := Text(v, "some name")
	written, _ := Print(v)
	alone, _ := Print(v.List[0])
	fresh(t, []api.Value{words(s), words(written), words(alone)}, []api.Value{v})
	Check(v)
	Same(v, kept)
	Number(v, "number")
	if !reflect.DeepEqual(v, kept) || !reflect.DeepEqual(v.List[:len(v.List)+1], kept.List[:len(v.List)+1]) || !reflect.DeepEqual(v.Names[:len(v.Names)+1], kept.Names[:len(v.Names)+1]) {
		t.Errorf("what was handed in was turned to %v", v)
	}
	found, _ := Get(v, "list")
	found.List[1].Names[0] = "turned"
	found.List[1].List[0].Text = "turned"
	_ = append(found.List[2].List, num(1))
	_ = append(found.List[1].Names, "turned")
	if !reflect.DeepEqual(v, kept) {
		t.Errorf("what is done to the answer turns what was handed in: %v", v)
	}
	for _, s := range append(samples(), written, `["plain",{"name":"text","and":[{"more":"of it"}]}]`, `"alone"`) {
		s = strings.Clone(s)
		read, e := Parse(s)
		if e == api.OK {
			fresh(t, []api.Value{read}, nil, s)
		}
	}
}

// The lists of two values may be one: no answer shares it.
func TestR3Shared(t *testing.T) {
	in, names := []api.Value{words("x"), list(num(1))}, []string{"b", "c"}
	one := api.Value{Kind: api.ValueObject, List: in, Names: names}
	v := obj("a", list(one, one, api.Value{Kind: api.ValueList, List: in}), "d", one)
	checks(t, v, api.OK)
	follows(t, v)
	for _, name := range v.Names {
		found, _ := Get(v, name)
		fresh(t, []api.Value{found}, []api.Value{v})
	}
}

// Values that are deeper, wider and longer than may be are gone through, too, and no call piles up calls.
func TestR1Large(t *testing.T) {
	const size = 1 << 17
	defer debug.SetMaxStack(debug.SetMaxStack(64 * size))
	of := func(last api.Value) api.Value {
		for i := range size {
			if i%2 == 0 {
				last = api.Value{Kind: api.ValueList, List: []api.Value{last}}
			} else {
				last = api.Value{Kind: api.ValueObject, List: []api.Value{last}, Names: []string{"a"}}
			}
		}
		return last
	}
	deep, wrong := of(num(1)), of(truth(2))
	for _, c := range []struct {
		v api.Value
		e api.Errno
	}{{deep, api.ErrDeep}, {wrong, api.ErrArg}} {
		if e := Check(c.v); e != c.e {
			t.Errorf("Check of what is very deep: error %d, want %d", e, c.e)
		}
		if s, e := Print(c.v); s != "" || e != c.e {
			t.Errorf("Print of what is very deep: error %d, want %d", e, c.e)
		}
	}
	if !Same(deep, deep) || Same(deep, wrong) || !Same(deep, of(num(1))) {
		t.Error("Same of what is very deep")
	}
	if found, ok := Get(deep, "a"); !ok || !Same(found, deep.List[0]) {
		t.Errorf("Get of what is very deep: %v", ok)
	}
	if _, e := Text(deep, "a"); e != api.ErrArg {
		t.Errorf("Text of what is very deep: error %d", e)
	}
	if _, e := Number(deep, "a"); e != api.ErrArg {
		t.Errorf("Number of what is very deep: error %d", e)
	}
	for _, kind := range []int{api.ValueList, api.ValueObject} {
		wide := flat(size, kind)
		if e := Check(wide); e != api.ErrLong {
			t.Errorf("Check of what is very wide: error %d", e)
		}
		if !Same(wide, flat(size, kind)) || Same(wide, flat(size+1, kind)) {
			t.Error("Same of what is very wide")
		}
	}
	if s, e := Print(list(words(strings.Repeat("<", 64*size)))); s != "" || e != api.ErrLong {
		t.Errorf("Print of a very long text: error %d", e)
	}
	if v, e := Parse(strings.Repeat("[", 64*size)); !same(v, api.Value{}) || e != api.ErrLong {
		t.Errorf("Parse of a very long text: error %d", e)
	}
}

// Texts that are as long as may be are read in a moment.
func TestR1LongTexts(t *testing.T) {
	for _, piece := range []string{"[", "]", "{", "}", "[]", "{}", "[],", "1,", "1", "-", `"`, `""`, `"",`, `\`, `\"`, `\u`, `\u0041`, `\ud800\udc00`, " ", "\n", "null,", "{\"a\":", "\"a\":1,", "x", "€", "1.", "1e", "0"} {
		for _, head := range []string{"", "[", `"`, "{", `{"a":`, "[1", "[1.", "[1e"} {
			s := head + strings.Repeat(piece, (65536-len(head))/len(piece))
			as(t, s[:min(len(s), 2000)])
			Parse(s)
			Parse(s[:len(s)-2] + "]")
		}
	}
	var names []string
	for i := range 6000 {
		names = append(names, `"`+strconv.Itoa(i)+`":1`)
	}
	as(t, "{"+strings.Join(names, ",")+"}")
	as(t, "{"+strings.Join(names, ",")+`,"0":1}`)
}

// What one call was told, or threw, is nothing to the next one.
func TestNothingIsKept(t *testing.T) {
	for range 3 {
		refuses(t, pile(17), api.ErrDeep)
		refuses(t, full(8192, "1"), api.ErrLong)
		refuses(t, "1.5", api.ErrArg)
		refuses(t, `{"a":1,"a"`, api.ErrText)
		parses(t, nested(16), lists(16))
		parses(t, `{"a":1}`, obj("a", num(1)))
		checks(t, nest(17), api.ErrDeep)
		checks(t, truth(2), api.ErrArg)
		checks(t, nest(16), api.OK)
		prints(t, obj("a", num(1)), `{"a":1}`)
	}
}
