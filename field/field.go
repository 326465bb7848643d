// Package field tells what header fields of HTTP are made of: tokens, values, and letters of any sort. Requests and responses ask it alike: see shared/doc/11-wire.md.
package field

import "strings"

// IsToken tells whether a text is a token, and so may be a header's name.
func IsToken(text string) bool {
	for i := range len(text) {
		if !isTokenByte(text[i]) {
			return false
		}
	}
	return text != ""
}

func isTokenByte(c byte) bool {
	switch {
	case 'a' <= c && c <= 'z', 'A' <= c && c <= 'Z', '0' <= c && c <= '9':
		return true
	}
	return strings.IndexByte("!#$%&'*+-.^_`|~", c) >= 0
}

// IsValue tells whether a text is of such bytes alone as a header's value may have.
func IsValue(text string) bool {
	for i := range len(text) {
		if c := text[i]; c < 32 && c != '\t' || c == 127 {
			return false
		}
	}
	return true
}

// Small tells a text with its capitals A to Z as small letters. (The library's own calls know more letters than these: some that aren't a to z would become such.)
func Small(text string) string {
	var small strings.Builder
	small.Grow(len(text))
	for i := range len(text) {
		c := text[i]
		if 'A' <= c && c <= 'Z' {
			c += 'a' - 'A'
		}
		small.WriteByte(c)
	}
	return small.String()
}

// Trim tells a text without the white, blanks and tabs, at both of its ends.
func Trim(text string) string {
	return strings.Trim(text, " \t")
}
