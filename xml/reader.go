package xml

import (
	"strings"

	"docket/api"
)

// reader reads a text piece by piece, from its beginning on, and gives up where a piece isn't what it should be.
type reader struct {
	rest   string  // what isn't read yet
	spaces []space // the namespaces that are declared where it reads, those of the inner elements last
}

// read reads a text into its tree.
func read(s string) api.Node {
	demand(len(s) <= api.MaxText, api.ErrLong)
	demand(isLetters(s), api.ErrXML)
	r := reader{rest: s, spaces: []space{{}}}
	r.declaration()
	r.aside()
	tree := r.element()
	r.aside()
	demand(r.rest == "", api.ErrXML)
	demand(Good(tree), api.ErrDeep)
	return tree
}

// take reads so many bytes.
func (r *reader) take(n int) string {
	taken := r.rest[:n]
	r.rest = r.rest[n:]
	return taken
}

// skip reads a text, if it comes next.
func (r *reader) skip(text string) bool {
	rest, found := strings.CutPrefix(r.rest, text)
	r.rest = rest
	return found
}

// need reads a text that must come next.
func (r *reader) need(text string) {
	demand(r.skip(text), api.ErrXML)
}

// upto reads all up to an end that must come, and the end; it tells what stands ahead of that.
func (r *reader) upto(end string) string {
	inside, rest, found := strings.Cut(r.rest, end)
	demand(found, api.ErrXML)
	r.rest = rest
	return inside
}

// plain reads the bytes ahead of the first of some others, or all that is left.
func (r *reader) plain(others string) string {
	n := strings.IndexAny(r.rest, others)
	if n < 0 {
		n = len(r.rest)
	}
	return r.take(n)
}

func (r *reader) white() bool {
	rest := strings.TrimLeft(r.rest, whites)
	found := len(rest) < len(r.rest)
	r.rest = rest
	return found
}

func (r *reader) name() string {
	n := nameLength(r.rest)
	demand(n > 0, api.ErrXML)
	return r.take(n)
}

// fullName reads a name, with the prefix and the colon ahead of it, if there are.
func (r *reader) fullName() string {
	name := r.name()
	if r.skip(":") {
		return name + ":" + r.name()
	}
	return name
}

// declaration passes over the text's own declaration. What has no white behind its beginning is none, but an instruction.
func (r *reader) declaration() {
	whole := r.rest
	if r.skip("<?xml") && r.white() {
		r.upto("?>")
		return
	}
	r.rest = whole
}

// aside passes over what may stand beside the outermost element.
func (r *reader) aside() {
	for r.white() || r.comment() || r.instruction() {
	}
}

func (r *reader) comment() bool {
	if !r.skip("<!--") {
		return false
	}
	r.upto("--")
	r.need(">")
	return true
}

func (r *reader) instruction() bool {
	if !r.skip("<?") {
		return false
	}
	demand(!strings.EqualFold(r.name(), "xml"), api.ErrXML)
	r.upto("?>")
	return true
}
