package xml

import (
	"strings"

	"lantern/api"
	"lantern/entity"
)

// Print puts a tree together.
func Print(n api.Node) (string, api.Errno) {
	if e := Check(n); e != api.OK {
		return "", e
	}
	var p printer
	p.node(n)
	if p.full {
		return "", api.ErrLong
	}
	return p.out.String(), api.OK
}

// printer puts nodes together, while there is room for them.
type printer struct {
	out  strings.Builder
	full bool
}

// put writes the pieces, unless one of them, or one ahead, found no room.
func (p *printer) put(pieces ...string) {
	for _, s := range pieces {
		p.full = p.full || p.out.Len()+len(s) > api.MaxBytes
		if !p.full {
			p.out.WriteString(s)
		}
	}
}

// node calls itself: Check, which comes ahead, tells how deep at most.
func (p *printer) node(n api.Node) {
	if n.Name == "" {
		p.put(p.escaped(n.Text))
		return
	}
	p.put("<", n.Name)
	for _, a := range n.Attrs {
		p.put(" ", a.Name, `="`, inQuotes(p.escaped(a.Value)), `"`)
	}
	if len(n.Kids) == 0 {
		p.put("/>")
		return
	}
	p.put(">")
	for _, kid := range n.Kids {
		p.node(kid)
	}
	p.put("</", n.Name, ">")
}

// escaped is a text as it is written.
func (p *printer) escaped(s string) string {
	// No text gets shorter: one that finds no room isn't gone through.
	if p.full || len(s) > api.MaxBytes {
		p.full = true
		return ""
	}
	written, _ := entity.Escape(s) // Check has seen that it may stand in XML
	return written
}

// inQuotes is an escaped text as it is written in an attribute.
func inQuotes(s string) string {
	// Those that stood themselves would be read as blanks.
	return strings.ReplaceAll(strings.ReplaceAll(s, "\t", "&#9;"), "\n", "&#10;")
}
