package lock

import (
	"slices"

	"docket/api"
	"docket/uri"
)

// isToken tells whether a text may be a lock's token. What stands around one in a header is no part of any.
func isToken(text string) bool {
	for i := range len(text) {
		if c := text[i]; c < 33 || c > 126 || c == '<' || c == '>' {
			return false
		}
	}
	return text != "" && len(text) <= api.MaxName
}

func isExpired(l api.Lock, now int64) bool {
	return l.Until <= now
}

// admit tells why a lock can't come to those that aren't expired.
func admit(l api.Lock, live []api.Lock) api.Errno {
	switch {
	case indexOf(live, l.Token) >= 0:
		return api.ErrThere
	case slices.ContainsFunc(live, func(other api.Lock) bool { return Clash(l, other) }):
		return api.ErrLocked
	case len(live) >= api.MaxLocks:
		return api.ErrFull
	}
	return api.OK
}

// indexOf tells where the lock of a token is, or a number below 0.
func indexOf(locks []api.Lock, token string) int {
	return slices.IndexFunc(locks, func(l api.Lock) bool { return l.Token == token })
}

// within tells those locks whose paths are a path, or lie below it.
func within(locks []api.Lock, path []string) []api.Lock {
	var all []api.Lock
	for _, l := range locks {
		if uri.Within(l.Path, path) {
			all = append(all, l)
		}
	}
	return all
}
