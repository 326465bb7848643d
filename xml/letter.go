package xml

import (
	"unicode/utf8"

	"docket/api"
)

const whites = "\t\n\r "

// isLetter tells whether a letter of Unicode's is one of XML's.
func isLetter(c rune) bool {
	switch {
	case c == '\t', c == '\n', c == '\r':
		return true
	case 0x20 <= c && c <= 0xD7FF, 0xE000 <= c && c <= 0xFFFD, 0x10000 <= c && c <= utf8.MaxRune:
		return true
	}
	return false
}

// isLetters tells whether a text is of XML's letters. Going over it doesn't show what isn't good UTF-8, since that comes out as a letter, too.
func isLetters(s string) bool {
	if !utf8.ValidString(s) {
		return false
	}
	for _, c := range s {
		if !isLetter(c) {
			return false
		}
	}
	return true
}

// isShort tells whether a text may be a tree's Space, or as long as a Name.
func isShort(s string) bool {
	return len(s) <= api.MaxName && isLetters(s)
}

// isName tells whether a text is a name, and nothing else.
func isName(s string) bool {
	return s != "" && nameLength(s) == len(s)
}

// nameLength tells how many bytes at the beginning of a text are a name.
func nameLength(s string) int {
	n := 0
	for n < len(s) && (beginsName(s[n]) || n > 0 && continuesName(s[n])) {
		n++
	}
	return n
}

func beginsName(c byte) bool {
	return 'a' <= c && c <= 'z' || 'A' <= c && c <= 'Z' || c == '_' || c >= 128
}

// continuesName tells of a byte that begins no name whether it may be in one.
func continuesName(c byte) bool {
	return '0' <= c && c <= '9' || c == '-' || c == '.'
}
