package xml

import (
	"strings"

	"lantern/api"
	"lantern/entity"
	"lantern/text"
)

// What tells the parts of a file apart.
const (
	comment    = "<!--"
	commentEnd = "-->"
	note       = "<?"
	noteEnd    = "?>"
	raw        = "<![CDATA["
	rawEnd     = "]]>"
	doctype    = "<!DOCTYPE"
	white      = " \t\n" // carriage returns are line feeds by then
)

// Parse reads a file.
func Parse(s string) (api.Node, api.Errno) {
	if len(s) > api.MaxBytes {
		return api.Node{}, api.ErrLong
	}
	if text.Xml(s) != api.OK {
		return api.Node{}, api.ErrText
	}
	r := reader{rest: entity.Lines(s)}
	tree, e := r.file()
	if e != api.OK {
		return api.Node{}, e
	}
	return tree, api.OK
}

// reader reads a file from the front. What it tells beside an error is of no meaning.
type reader struct {
	rest  string // what is not read yet
	nodes int    // how many the tree has till now, attributes counted
}

func (r *reader) file() (api.Node, api.Errno) {
	if e := r.asides(); e != api.OK {
		return api.Node{}, e
	}
	if r.at(doctype) {
		return api.Node{}, api.ErrDenied
	}
	tree, e := r.element(1)
	if e != api.OK {
		return tree, e
	}
	if e := r.asides(); e != api.OK {
		return tree, e
	}
	if r.rest != "" {
		return tree, api.ErrText
	}
	return tree, api.OK
}

// asides reads what may stand around the tree: white, comments and notes.
func (r *reader) asides() api.Errno {
	for r.white(); r.atAside(); r.white() {
		if e := r.aside(); e != api.OK {
			return e
		}
	}
	return api.OK
}

func (r *reader) atAside() bool {
	return r.at(comment) || r.at(note)
}

// aside reads a comment or a note, which is nothing.
func (r *reader) aside() api.Errno {
	end := noteEnd
	if r.pass(comment) {
		end = commentEnd
	} else {
		r.pass(note)
	}
	_, e := r.upTo(end)
	return e
}

// element reads one that is so deep in the tree.
func (r *reader) element(deep int) (api.Node, api.Errno) {
	if !r.pass("<") {
		return api.Node{}, api.ErrText
	}
	n := api.Node{Name: r.name()}
	if n.Name == "" {
		return n, api.ErrText
	}
	if deep > api.MaxDeep {
		return n, api.ErrDeep
	}
	e := r.count()
	if e != api.OK {
		return n, e
	}
	if n.Attrs, e = r.attributes(); e != api.OK {
		return n, e
	}
	if r.pass("/>") {
		return n, api.OK
	}
	if !r.pass(">") {
		return n, api.ErrText
	}
	if n.Kids, e = r.kids(deep + 1); e != api.OK {
		return n, e
	}
	return n, r.end(n.Name)
}

// end reads what ends an element of that name.
func (r *reader) end(name string) api.Errno {
	if !r.pass("</") || r.name() != name {
		return api.ErrText
	}
	r.white()
	if !r.pass(">") {
		return api.ErrText
	}
	return api.OK
}

// attributes reads those of an element, and the white behind them.
func (r *reader) attributes() ([]api.Header, api.Errno) {
	var attrs []api.Header
	seen := map[string]struct{}{}
	for r.white() { // each has some ahead of it: side by side they are wrong
		name := r.name()
		if name == "" {
			return attrs, api.OK
		}
		value, e := r.value()
		if e != api.OK {
			return nil, e
		}
		if _, twice := seen[name]; twice {
			return nil, api.ErrText
		}
		if e := r.count(); e != api.OK {
			return nil, e
		}
		seen[name] = struct{}{}
		attrs = append(attrs, api.Header{Name: name, Value: value})
	}
	return attrs, api.OK
}

// value reads what stands behind an attribute's name.
func (r *reader) value() (string, api.Errno) {
	r.white()
	if !r.pass("=") {
		return "", api.ErrText
	}
	r.white()
	quote := `"`
	if !r.pass(quote) {
		quote = "'"
		if !r.pass(quote) {
			return "", api.ErrText
		}
	}
	written, e := r.upTo(quote)
	if e != api.OK {
		return "", e
	}
	if strings.Contains(written, "<") {
		return "", api.ErrText
	}
	return entity.Value(written)
}

// kids reads those of an element, which are so deep in the tree.
func (r *reader) kids(deep int) ([]api.Node, api.Errno) {
	var kids []api.Node
	var words []byte // the text that the next piece of one goes on with
	for !r.at("</") {
		switch {
		case r.atAside():
			if e := r.aside(); e != api.OK {
				return nil, e
			}
		case r.at("<") && !r.at(raw):
			kid, e := r.element(deep)
			if e != api.OK {
				return nil, e
			}
			kids = append(appendText(kids, words), kid)
			words = nil
		default:
			piece, e := r.piece(len(words) == 0)
			if e != api.OK {
				return nil, e
			}
			words = append(words, piece...)
		}
	}
	return appendText(kids, words), api.OK
}

// appendText appends a text; none, if it is empty.
func appendText(kids []api.Node, words []byte) []api.Node {
	if len(words) == 0 {
		return kids
	}
	return append(kids, api.Node{Text: string(words)})
}

// piece reads a piece of a text. One that begins a text, and is not empty, counts.
func (r *reader) piece(begins bool) (string, api.Errno) {
	s, e := r.pieceAsItIs()
	if e == api.OK && begins && s != "" {
		e = r.count()
	}
	return s, e
}

func (r *reader) pieceAsItIs() (string, api.Errno) {
	if r.pass(raw) {
		return r.upTo(rawEnd)
	}
	size := strings.Index(r.rest, "<")
	if size < 0 {
		return "", api.ErrText
	}
	written := r.rest[:size]
	r.rest = r.rest[size:]
	if strings.Contains(written, rawEnd) {
		return "", api.ErrText
	}
	return entity.Unescape(written)
}

// count takes one node more into the tree.
func (r *reader) count() api.Errno {
	r.nodes++
	if r.nodes > maxNodes {
		return api.ErrLong
	}
	return api.OK
}

// name reads one; it is empty, if there is none.
func (r *reader) name() string {
	size := nameSize(r.rest)
	name := strings.Clone(r.rest[:size]) // so that a tree doesn't hold on to the file
	r.rest = r.rest[size:]
	return name
}

// white reads what there is of it, and tells whether there is any.
func (r *reader) white() bool {
	size := len(r.rest)
	r.rest = strings.TrimLeft(r.rest, white)
	return len(r.rest) < size
}

func (r *reader) at(mark string) bool {
	return strings.HasPrefix(r.rest, mark)
}

// pass reads the mark, if it stands there.
func (r *reader) pass(mark string) bool {
	rest, found := strings.CutPrefix(r.rest, mark)
	r.rest = rest
	return found
}

// upTo reads what stands ahead of the next such mark, and the mark.
func (r *reader) upTo(mark string) (string, api.Errno) {
	before, behind, found := strings.Cut(r.rest, mark)
	if !found {
		return "", api.ErrText
	}
	r.rest = behind
	return before, api.OK
}
