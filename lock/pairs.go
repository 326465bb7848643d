package lock

import (
	"strconv"
	"strings"

	"docket/api"
)

// keyMark is what the keys of all locks begin with; behind it is the token. It is more than the t of a tree's keys, so that in
// a site's vault no pair comes behind the locks', and a scan from the first of them on reads nothing else.
const keyMark = "wl"

// A lock's value is its head, which is two digits for what kind it is of, and its end; then its path and its owner, behind
// marks that no segment holds. It is short, since the vault needs no blob for what is.
const (
	segmentMark = "/"
	ownerMark   = "\x00"
	kindDigits  = 2
)

func keyOf(token string) string {
	return keyMark + token
}

func pack(l api.Lock) string {
	head := string([]byte{digit(l.Deep), digit(l.Exclusive)}) + strconv.FormatInt(l.Until, 10)
	return strings.Join(append([]string{head}, l.Path...), segmentMark) + ownerMark + l.Owner
}

// unpack reads a lock that was packed. What no good lock would be packed as is none, so whatever else is wrong there shows
// where the lock is packed again.
func unpack(token, packed string) (api.Lock, bool) {
	told, owner, _ := strings.Cut(packed, ownerMark)
	parts := strings.Split(told, segmentMark)
	head := parts[0]
	if len(head) < kindDigits {
		return api.Lock{}, false
	}
	until, _ := strconv.ParseInt(head[kindDigits:], 10, 64)
	l := api.Lock{
		Token:     token,
		Path:      parts[1:],
		Deep:      head[0] == digit(true),
		Exclusive: head[1] == digit(true),
		Owner:     owner,
		Until:     until,
	}
	return l, Good(l) && pack(l) == packed
}

func digit(so bool) byte {
	if so {
		return '1'
	}
	return '0'
}

func (t *Table) isNone() bool {
	return t == nil || t.tx == nil
}

// load reads all locks, in the order of their tokens: those that aren't expired, and those that are.
func (t *Table) load(now int64) (live, expired []api.Lock, err api.Errno) {
	if t.isNone() {
		return nil, nil, api.ErrNone
	}
	// There are never more, expired ones included: Add sees to that.
	pairs, err := t.tx.Scan(keyMark, api.MaxLocks)
	if err != api.OK {
		return nil, nil, err
	}
	for _, pair := range pairs {
		token, ok := strings.CutPrefix(pair.Key, keyMark)
		if !ok {
			break
		}
		l, ok := unpack(token, pair.Value)
		switch {
		case !ok:
			return nil, nil, api.ErrBad
		case isExpired(l, now):
			expired = append(expired, l)
		default:
			live = append(live, l)
		}
	}
	return live, expired, api.OK
}

// find finds the lock of a token, if there is one that isn't expired.
func (t *Table) find(token string, now int64) (api.Lock, api.Errno) {
	live, _, err := t.load(now)
	if err != api.OK {
		return api.Lock{}, err
	}
	i := indexOf(live, token)
	if i < 0 {
		return api.Lock{}, api.ErrNone
	}
	return live[i], api.OK
}

func (t *Table) put(l api.Lock) api.Errno {
	return t.tx.Put(keyOf(l.Token), pack(l))
}

func (t *Table) drop(locks []api.Lock) api.Errno {
	for _, l := range locks {
		if _, err := t.tx.Delete(keyOf(l.Token)); err != api.OK {
			return err
		}
	}
	return api.OK
}
