package xml

import (
	"strconv"
	"strings"
	"unicode/utf8"

	"docket/api"
)

// text reads all up to where an element begins or ends, and tells what that says.
func (r *reader) text() string {
	var said strings.Builder
	for {
		switch {
		case r.comment() || r.instruction():
		case r.skip("<![CDATA["):
			said.WriteString(unify(r.upto("]]>")))
		case r.skip("&"):
			said.WriteRune(r.reference())
		case r.rest == "" || r.rest[0] == '<':
			return said.String()
		default:
			written := r.plain("<&")
			demand(!strings.Contains(written, "]]>"), api.ErrXML)
			said.WriteString(unify(written))
		}
	}
}

// value reads an attribute's value, and tells what that says.
func (r *reader) value() string {
	quote := `"`
	if !r.skip(quote) {
		quote = "'"
		r.need(quote)
	}
	inside := reader{rest: r.upto(quote)}
	demand(!strings.Contains(inside.rest, "<"), api.ErrXML)
	var said strings.Builder
	for inside.rest != "" {
		if inside.skip("&") {
			said.WriteRune(inside.reference())
			continue
		}
		said.WriteString(flatten(unify(inside.plain("&"))))
	}
	return said.String()
}

// unify makes each end of a line a single byte.
func unify(s string) string {
	return strings.ReplaceAll(strings.ReplaceAll(s, "\r\n", "\n"), "\r", "\n")
}

// flatten makes blanks of the other white that is left when ends of lines are unified.
func flatten(s string) string {
	return strings.ReplaceAll(strings.ReplaceAll(s, "\n", " "), "\t", " ")
}

// reference reads what stands behind a &, and tells the letter that is meant.
func (r *reader) reference() rune {
	name := r.upto(";")
	switch name {
	case "lt":
		return '<'
	case "gt":
		return '>'
	case "amp":
		return '&'
	case "quot":
		return '"'
	case "apos":
		return '\''
	}
	if digits, found := strings.CutPrefix(name, "#x"); found {
		return numbered(digits, 16)
	}
	digits, found := strings.CutPrefix(name, "#")
	demand(found, api.ErrXML)
	return numbered(digits, 10)
}

// numbered tells the letter of a number.
func numbered(digits string, base int) rune {
	const most = 9 // digits, noughts in front of others among them
	n, err := strconv.ParseUint(digits, base, 64)
	demand(err == nil && len(digits) <= most && n <= utf8.MaxRune, api.ErrXML)
	demand(isLetter(rune(n)), api.ErrXML)
	return rune(n)
}
