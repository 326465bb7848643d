package wire

import (
	"strings"

	"docket/api"
	"docket/field"
)

func (r *reader) takeRequestLine(piece string) int {
	line, status := bare(piece, longTarget)
	switch {
	case status != 0:
		return status
	case line == "":
		return r.then(readRequestLine)
	}
	method, rest, _ := strings.Cut(line, " ")
	target, version, _ := strings.Cut(rest, " ")
	switch {
	case !field.IsToken(method) || !isTarget(target) || !isVersion(version):
		return badRequest
	case version != "HTTP/1.1":
		return otherHTTP
	}
	r.request.Method, r.request.Target = method, target
	return r.then(readHeader)
}

func isTarget(text string) bool {
	for i := range len(text) {
		if c := text[i]; c < 33 || c > 126 {
			return false
		}
	}
	return text != ""
}

func isVersion(text string) bool {
	digits, found := strings.CutPrefix(text, "HTTP/")
	return found && len(digits) == 3 && isDigit(digits[0]) && digits[1] == '.' && isDigit(digits[2])
}

func isDigit(c byte) bool {
	return '0' <= c && c <= '9'
}

func (r *reader) takeHeader(piece string) int {
	line, status := bare(piece, longHead)
	switch {
	case status != 0:
		return status
	case line == "":
		return r.endHead()
	}
	r.head += len(piece)
	if r.head > api.MaxHead || len(r.request.Headers) == api.MaxHeaders {
		return longHead
	}
	name, value, colon := strings.Cut(line, ":")
	if !colon || !field.IsToken(name) || !field.IsValue(value) {
		return badRequest
	}
	r.request.Headers = append(r.request.Headers, api.Header{Name: field.Small(name), Value: field.Trim(value)})
	return 0
}

// endHead looks at what the headers say of the request as a whole, and of how its body comes.
func (r *reader) endHead() int {
	r.request.Close = r.closes()
	codings, lengths := r.values("transfer-encoding"), r.values("content-length")
	switch {
	case len(r.values("host")) != 1:
		return badRequest
	case len(codings) == 0 && len(lengths) == 0:
		return r.then(whole)
	case len(codings) == 0:
		return r.expectLength(lengths)
	case len(lengths) > 0:
		return badRequest
	case len(codings) > 1 || field.Small(codings[0]) != "chunked":
		return otherCoding
	}
	return r.then(readChunkLine)
}

// closes tells whether the connection ends with this request.
func (r *reader) closes() bool {
	for _, value := range r.values("connection") {
		for piece := range strings.SplitSeq(value, ",") {
			if field.Small(field.Trim(piece)) == "close" {
				return true
			}
		}
	}
	return false
}

// values tells what all headers of a name say.
func (r *reader) values(name string) []string {
	var values []string
	for _, h := range r.request.Headers {
		if h.Name == name {
			values = append(values, h.Value)
		}
	}
	return values
}
