package vault

import (
	"strings"

	"docket/api"
	"docket/blob"
)

// A value lies in the tree behind a mark that tells how: itself, or its blob's head.
const (
	shortMark = "s"
	longMark  = "l"
	mostShort = api.MaxSmall - len(shortMark) // how many bytes a value has at most that takes no blob
)

// stored is how a value lies in the tree.
type stored struct {
	short string
	head  int // of the blob; 0: it takes none
}

// pack makes what the tree holds.
func (s stored) pack() string {
	if s.head == 0 {
		return shortMark + s.short
	}
	return longMark + packNumber(s.head)
}

// unpack reads off what the tree holds.
func unpack(held string) (stored, bool) {
	if short, ok := strings.CutPrefix(held, shortMark); ok {
		return stored{short: short}, true
	}
	packed, ok := strings.CutPrefix(held, longMark)
	if !ok || len(packed) != numberSize {
		return stored{}, false
	}
	head := readNumber(packed)
	return stored{head: head}, head != 0
}

// lay lays a text, in a blob if it is long.
func (b blocks) lay(text string) (stored, api.Errno) {
	if len(text) <= mostShort {
		return stored{short: text}, api.OK
	}
	head, err := blob.Write(b, text)
	return stored{head: head}, err
}

// text tells the text that was laid.
func (b blocks) text(s stored) (string, api.Errno) {
	if s.head == 0 {
		return s.short, api.OK
	}
	return blob.Read(b, s.head)
}

// drop gives back what a value takes beside the tree.
func (b blocks) drop(s stored) api.Errno {
	return blob.Free(b, s.head)
}
