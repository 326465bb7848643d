package reply

import (
	"strconv"
	"strings"

	"docket/api"
)

// reader takes the parts of a response's form off the front of bytes. Once a part isn't there as the form has it, the reader is lost, and what it tells means nothing.
type reader struct {
	rest string
	lost bool
}

// need loses the reader where something doesn't hold.
func (f *reader) need(holds bool) {
	f.lost = f.lost || !holds
}

// takeLine takes a line off, if it is this one.
func (f *reader) takeLine(line string) bool {
	rest, ok := strings.CutPrefix(f.rest, line+lineEnd)
	f.rest = rest
	return ok
}

// line tells the next line. Whether its end is there is seen where it is taken off.
func (f *reader) line() string {
	line, _, _ := strings.Cut(f.rest, lineEnd)
	return line
}

// status takes the first line off. What strconv reads may be written otherwise than it would be, as +200 is, so the line as a whole is held against the form.
func (f *reader) status() int {
	digits, _, _ := strings.Cut(strings.TrimPrefix(f.line(), version), " ")
	status, _ := strconv.Atoi(digits)
	f.need(reason(status) != "" && f.takeLine(statusLine(status)))
	return status
}

// headers takes headers off as long as there are such as a response may have. They are new memory.
func (f *reader) headers() []api.Header {
	var all []api.Header
	for len(all) < api.MaxHeaders {
		line, rest, ended := strings.Cut(f.rest, lineEnd)
		name, value, named := strings.Cut(line, nameEnd)
		h := api.Header{Name: name, Value: value}
		if !ended || !named || !isHeader(h) {
			break
		}
		all = append(all, api.Header{Name: strings.Clone(name), Value: strings.Clone(value)})
		f.rest = rest
	}
	return all
}

// size takes the line off that tells how many bytes the body has.
func (f *reader) size() int {
	size, _ := strconv.Atoi(strings.TrimPrefix(f.line(), lengthName))
	f.need(size >= 0 && size <= api.MaxText && f.takeLine(lengthLine(size)))
	return size
}

// body takes so many bytes off. They are new memory.
func (f *reader) body(size int) string {
	f.need(len(f.rest) >= size)
	if f.lost {
		return ""
	}
	body := strings.Clone(f.rest[:size])
	f.rest = f.rest[size:]
	return body
}
