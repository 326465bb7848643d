package uri

import (
	"slices"
	"strings"

	"docket/api"
)

const scheme = "http://"

// localPart tells what of a target is the path: all of it, but where it names a host, too.
func localPart(target string) (string, bool) {
	rest, ok := strings.CutPrefix(target, scheme)
	if !ok {
		return target, true
	}
	slash := strings.IndexByte(rest, '/')
	switch {
	case rest == "" || slash == 0:
		return "", false
	case slash < 0:
		return "/", printable(rest)
	}
	return rest[slash:], true
}

// printable tells whether a text has just such bytes as may stand in a target, with no query and no fragment.
func printable(s string) bool {
	for i := range len(s) {
		if c := s[i]; c < 33 || c > 126 || c == '?' || c == '#' {
			return false
		}
	}
	return true
}

// follow goes where the pieces lead, from the root on.
func follow(pieces string) ([]string, bool, api.Errno) {
	var t trail
	dir := false
	for piece := range strings.SplitSeq(pieces, "/") {
		said, err := say(piece)
		if err != api.OK {
			return nil, false, err
		}
		dir = said == "" || isDots(said)
		if !t.step(said) {
			return nil, false, api.ErrPath
		}
	}
	if t.depth > len(t.segments) {
		return nil, false, api.ErrLong
	}
	return slices.Clone(t.segments[:t.depth]), dir, api.OK
}

// trail is where the pieces have led so far. What lies deeper than a path may end is counted, and not kept: it is told only if .. leads out of it again, and then it is gone.
type trail struct {
	segments [api.MaxSegs]string
	depth    int
}

// step does what a piece says, and tells whether that could be done.
func (t *trail) step(said string) bool {
	switch said {
	case "", ".":
		return true
	case "..":
		t.depth--
		return t.depth >= 0
	}
	if t.depth < len(t.segments) {
		t.segments[t.depth] = said
	}
	t.depth++
	return true
}
