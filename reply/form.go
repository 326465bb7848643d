package reply

import (
	"strconv"

	"docket/api"
	"docket/field"
)

// What the lines of a response's form are made of.
const (
	lineEnd    = "\r\n"
	version    = "HTTP/1.1 "
	nameEnd    = ": "
	lengthName = "Content-Length" + nameEnd
	closeLine  = "Connection" + nameEnd + "close"
)

// statusLine is the first line of a response, without its end.
func statusLine(status int) string {
	return version + strconv.Itoa(status) + " " + reason(status)
}

// lengthLine is the line that tells how many bytes the body has, without its end.
func lengthLine(size int) string {
	return lengthName + strconv.Itoa(size)
}

// isHeader tells whether a response may have a header. What frames the body or ends the connection isn't the caller's to say.
func isHeader(h api.Header) bool {
	if !field.IsToken(h.Name) || !field.IsValue(h.Value) || field.Trim(h.Value) != h.Value {
		return false
	}
	switch field.Small(h.Name) {
	case "content-length", "connection", "transfer-encoding":
		return false
	}
	return true
}
