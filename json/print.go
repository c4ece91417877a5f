package json

import (
	"strconv"
	"strings"

	"lantern/api"
)

// Print puts a value together.
func Print(v api.Value) (string, api.Errno) {
	var p printer
	e := caught(func() {
		check(v)
		p.value(v)
	})
	if e != api.OK {
		return "", e
	}
	return p.out.String(), api.OK
}

// printer puts values together. It throws, where there is no more room.
type printer struct {
	out strings.Builder
}

func (p *printer) put(s string) {
	if p.out.Len()+len(s) > api.MaxBytes {
		panic(api.ErrLong)
	}
	p.out.WriteString(s)
}

// value calls itself, by list and object: check, which comes ahead, tells how deep at most.
func (p *printer) value(v api.Value) {
	switch x := own(v).(type) {
	case nil:
		p.put("null")
	case bool:
		p.put(strconv.FormatBool(x))
	case int64:
		p.put(strconv.FormatInt(x, 10))
	case string:
		p.text(x)
	case []api.Value:
		p.list(x)
	case object:
		p.object(x)
	}
}

func (p *printer) list(values []api.Value) {
	p.put("[")
	for i, v := range values {
		p.between(i)
		p.value(v)
	}
	p.put("]")
}

func (p *printer) object(o object) {
	p.put("{")
	for i, v := range o.list {
		p.between(i)
		p.text(o.names[i])
		p.put(":")
		p.value(v)
	}
	p.put("}")
}

// between puts what stands ahead of the i-th of several.
func (p *printer) between(i int) {
	if i > 0 {
		p.put(",")
	}
}

func (p *printer) text(s string) {
	p.put(`"`)
	plain := 0 // where what stands as it is begins
	for i := range len(s) {
		if escaped := escape(s[i]); escaped != "" {
			p.put(s[plain:i])
			p.put(escaped)
			plain = i + 1
		}
	}
	p.put(s[plain:])
	p.put(`"`)
}

// escape is what stands for a byte that can't stand for itself; else it is empty.
func escape(c byte) string {
	switch {
	case c == '"':
		return `\"`
	case c == '\\':
		return `\\`
	case c == '\n':
		return `\n`
	case c == '\r':
		return `\r`
	case c == '\t':
		return `\t`
	case c < 16:
		return `\u000` + strconv.FormatInt(int64(c), 16)
	case c < ' ', c == 127:
		return `\u00` + strconv.FormatInt(int64(c), 16)
	}
	return ""
}
