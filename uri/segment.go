package uri

import (
	"strconv"
	"strings"
	"unicode/utf8"

	"docket/api"
)

const upperDigits = "0123456789ABCDEF"

// isSegment tells whether a text may be a path's.
func isSegment(s string) bool {
	return s != "" && len(s) <= api.MaxSeg && isClean(s) && !isDots(s)
}

// isClean tells whether a text is of such letters as a segment may have.
func isClean(s string) bool {
	return utf8.ValidString(s) && !strings.ContainsAny(s, "\x00/")
}

// isDots tells whether a text stands for a step, and so is no segment.
func isDots(s string) bool {
	return s == "." || s == ".."
}

// say tells what a target's piece says.
func say(piece string) (string, api.Errno) {
	said, ok := decode(piece)
	switch {
	case !ok || !isClean(said):
		return "", api.ErrPath
	case len(said) > api.MaxSeg:
		return "", api.ErrLong
	}
	return said, api.OK
}

// decode puts the byte that is meant for each % and its two digits. It builds the text anew even if there is none, since what is answered shares no memory with the target.
func decode(piece string) (string, bool) {
	var said strings.Builder
	for {
		plain, coded, found := strings.Cut(piece, "%")
		said.WriteString(plain)
		if !found {
			return said.String(), true
		}
		if len(coded) < 2 {
			return "", false
		}
		c, err := strconv.ParseUint(coded[:2], 16, 8)
		if err != nil {
			return "", false
		}
		said.WriteByte(byte(c))
		piece = coded[2:]
	}
}

// writeSegment writes a segment as a path's form has it.
func writeSegment(form *strings.Builder, s string) {
	for i := range len(s) {
		c := s[i]
		if standsAsItIs(c) {
			form.WriteByte(c)
			continue
		}
		form.WriteByte('%')
		form.WriteByte(upperDigits[c>>4])
		form.WriteByte(upperDigits[c&15])
	}
}

func standsAsItIs(c byte) bool {
	switch {
	case 'a' <= c && c <= 'z', 'A' <= c && c <= 'Z', '0' <= c && c <= '9':
		return true
	}
	return c == '-' || c == '.' || c == '_' || c == '~'
}
