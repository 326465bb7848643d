package xml

import (
	"strings"

	"docket/api"
)

// declares is the name of the attribute that declares a namespace, and the prefix of those that do.
const declares = "xmlns"

// space is a namespace, and the prefix for which it is declared: none, for names without one.
type space struct {
	prefix, name string
}

// element reads an element, with all that is in it.
func (r *reader) element() api.Node {
	outside := len(r.spaces)
	r.need("<")
	written := r.fullName()
	prefix, name := split(written)
	attrs := r.declare(r.attributes())
	n := api.Node{Space: r.spaceOf(prefix), Name: strings.Clone(name), Attrs: attrs}
	if !r.skip("/>") {
		r.need(">")
		n.Kids = r.content()
		r.need("</" + written)
		r.white()
		r.need(">")
	}
	r.spaces = r.spaces[:outside]
	return n
}

// split tells a name's prefix, if it has one, and what stands behind it.
func split(written string) (prefix, name string) {
	prefix, name, found := strings.Cut(written, ":")
	if !found {
		return "", written
	}
	return prefix, name
}

// attributes reads what attributes an element has, those that declare a namespace, too; and the white behind them.
func (r *reader) attributes() []api.Attr {
	var attrs []api.Attr
	for r.white() && nameLength(r.rest) > 0 {
		name := r.fullName()
		r.white()
		r.need("=")
		r.white()
		attrs = append(attrs, api.Attr{Name: strings.Clone(name), Value: r.value()})
	}
	demand(areDistinct(attrs), api.ErrXML)
	return attrs
}

// declare takes note of the namespaces that attributes declare, and tells the other attributes.
func (r *reader) declare(all []api.Attr) []api.Attr {
	var others []api.Attr
	for _, a := range all {
		prefix, name := split(a.Name)
		switch {
		case prefix == declares:
			demand(a.Value != "" && name != "xml" && name != declares, api.ErrXML)
			r.spaces = append(r.spaces, space{name, a.Value})
		case a.Name == declares:
			r.spaces = append(r.spaces, space{"", a.Value})
		default:
			demand(prefix == "", api.ErrXML)
			others = append(others, a)
		}
	}
	return others
}

// spaceOf tells the namespace that is declared for a prefix.
func (r *reader) spaceOf(prefix string) string {
	i := len(r.spaces) - 1
	for i >= 0 && r.spaces[i].prefix != prefix {
		i--
	}
	demand(i >= 0, api.ErrXML)
	return r.spaces[i].name
}

// content reads what is in an element, up to where that must end.
func (r *reader) content() []api.Node {
	var kids []api.Node
	for {
		if text := r.text(); text != "" {
			kids = append(kids, api.Node{Text: text})
		}
		if strings.HasPrefix(r.rest, "</") {
			return kids
		}
		kids = append(kids, r.element())
	}
}
