package json

import (
	"strconv"
	"strings"

	"lantern/api"
	"lantern/text"
)

// What tells the parts of a text apart.
const (
	white  = " \t\n\r"
	begins = `ntf-0123456789"[{` // the bytes that a value can begin with
	// Behind a \ each of the first stands for the one of the second at its place.
	letters = `"\/bfnrt`
	meant   = "\"\\/\b\f\n\r\t"
)

// The surrogates: two halves of runes, high ones ahead of low ones.
const (
	high       = 0xD800
	low        = 0xDC00
	surrogates = 0xE000 // above them
	beyond     = 0x10000
)

// Parse reads a value.
func Parse(s string) (api.Value, api.Errno) {
	if len(s) > api.MaxBytes {
		return api.Value{}, api.ErrLong
	}
	if text.Check(s) != api.OK {
		return api.Value{}, api.ErrText
	}
	var v api.Value
	e := caught(func() {
		r := reader{rest: s}
		v = r.file()
	})
	return v, e
}

// reader reads from the front, and throws what is wrong first.
type reader struct {
	rest   string // what is not read yet
	values int    // how many begin till now
	deep   int    // in how many lists and objects it reads
}

func (r *reader) file() api.Value {
	x := r.value()
	r.white()
	if r.rest != "" {
		panic(api.ErrText)
	}
	return told(x)
}

// value calls itself, by list and object, which throw where they are too deep.
func (r *reader) value() any {
	r.white()
	r.count()
	switch {
	case r.pass("null"):
		return nil
	case r.pass("true"):
		return true
	case r.pass("false"):
		return false
	case r.at(`"`):
		return r.text()
	case r.pass("["):
		return r.list()
	case r.pass("{"):
		return r.object()
	}
	return r.number()
}

// count takes the value that begins here for one more, if one can.
func (r *reader) count() {
	if r.rest == "" || strings.IndexByte(begins, r.rest[0]) < 0 {
		return
	}
	r.values++
	if r.values > maxValues {
		panic(api.ErrLong)
	}
}

func (r *reader) list() []api.Value {
	r.deeper()
	var list []api.Value
	for more := !r.ends("]"); more; more = r.goesOn("]") {
		list = append(list, told(r.value()))
	}
	r.deep--
	return list
}

func (r *reader) object() object {
	r.deeper()
	var o object
	seen := map[string]struct{}{}
	for more := !r.ends("}"); more; more = r.goesOn("}") {
		r.white()
		name := r.text()
		if _, twice := seen[name]; twice {
			panic(api.ErrText)
		}
		seen[name] = struct{}{}
		r.white()
		r.need(":")
		o.names = append(o.names, name)
		o.list = append(o.list, told(r.value()))
	}
	r.deep--
	return o
}

func (r *reader) deeper() {
	r.deep++
	if r.deep > api.MaxDeep {
		panic(api.ErrDeep)
	}
}

// ends reads what ends a list or an object, if it stands there.
func (r *reader) ends(end string) bool {
	r.white()
	return r.pass(end)
}

// goesOn reads a comma, or what ends a list or an object.
func (r *reader) goesOn(end string) bool {
	if r.ends(end) {
		return false
	}
	r.need(",")
	return true
}

func (r *reader) text() string {
	r.need(`"`)
	var b strings.Builder
	for !r.pass(`"`) {
		if r.pass(`\`) {
			b.WriteRune(r.escaped())
		} else {
			b.WriteString(r.take(plainSize(r.rest)))
		}
	}
	return b.String()
}

// plainSize is how many bytes stand for themselves at the beginning of what is left of a text.
func plainSize(s string) int {
	size := 0
	for size < len(s) && s[size] >= ' ' && s[size] != '"' && s[size] != '\\' {
		size++
	}
	return size
}

// escaped reads what stands behind a \.
func (r *reader) escaped() rune {
	if r.pass("u") {
		return r.hexRune()
	}
	at := strings.Index(letters, r.take(1))
	if at < 0 {
		panic(api.ErrText)
	}
	return rune(meant[at])
}

// hexRune reads what stands behind \u, and one more, where that is half of a rune.
func (r *reader) hexRune() rune {
	one := r.hex()
	if one < high || one >= surrogates {
		return one
	}
	r.need(`\u`)
	two := r.hex()
	if one >= low || two < low || two >= surrogates {
		panic(api.ErrText)
	}
	return beyond + (one-high)*(low-high) + (two - low)
}

// hex reads four digits.
func (r *reader) hex() rune {
	n, err := strconv.ParseUint(r.take(4), 16, 16)
	if err != nil {
		panic(api.ErrText)
	}
	return rune(n)
}

func (r *reader) number() int64 {
	from := r.rest
	r.pass("-")
	if !r.pass("0") {
		r.digits()
	}
	n, err := strconv.ParseInt(from[:len(from)-len(r.rest)], 10, 64)
	whole := err == nil
	if r.pass(".") {
		r.digits()
		whole = false
	}
	if r.pass("e") || r.pass("E") {
		if !r.pass("+") {
			r.pass("-")
		}
		r.digits()
		whole = false
	}
	if !whole {
		panic(api.ErrArg)
	}
	return n
}

// digits reads one, and those behind it.
func (r *reader) digits() {
	size := 0
	for size < len(r.rest) && '0' <= r.rest[size] && r.rest[size] <= '9' {
		size++
	}
	r.take(size)
}

func (r *reader) white() {
	r.rest = strings.TrimLeft(r.rest, white)
}

func (r *reader) at(mark string) bool {
	return strings.HasPrefix(r.rest, mark)
}

// pass reads the mark, if it stands there.
func (r *reader) pass(mark string) bool {
	rest, found := strings.CutPrefix(r.rest, mark)
	r.rest = rest
	return found
}

// need reads the mark, which must stand there.
func (r *reader) need(mark string) {
	if !r.pass(mark) {
		panic(api.ErrText)
	}
}

// take reads so many bytes: one at least, and no more than there are.
func (r *reader) take(size int) string {
	if size < 1 || size > len(r.rest) {
		panic(api.ErrText)
	}
	taken := r.rest[:size]
	r.rest = r.rest[size:]
	return taken
}
