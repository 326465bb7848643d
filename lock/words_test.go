package lock

import (
	"fmt"
	"math"
	"slices"
	"strings"
	"testing"

	"docket/api"
	"docket/disk"
	"docket/vault"
)

// words are a table of locks, as the chapter has it: a list, with those that are expired, but aren't forgotten.
type words struct {
	locks []api.Lock
}

// begins tells whether a path begins with all of another one.
func begins(path, with []string) bool {
	for i, s := range with {
		if i >= len(path) || path[i] != s {
			return false
		}
	}
	return true
}

func covers(l api.Lock, path []string) bool {
	return begins(path, l.Path) && (l.Deep || begins(l.Path, path))
}

// clash looks for a path that is covered by both. If there is one, one of theirs is.
func clash(a, b api.Lock) bool {
	for _, path := range [][]string{a.Path, b.Path} {
		if covers(a, path) && covers(b, path) {
			return a.Exclusive || b.Exclusive
		}
	}
	return false
}

func good(l api.Lock) bool {
	for _, c := range []byte(l.Token) {
		if c <= ' ' || c >= 127 || c == '<' || c == '>' {
			return false
		}
	}
	for _, s := range l.Path {
		if s == "" || len(s) > 64 || s == "." || s == ".." || strings.Contains(s, "/") || strings.Contains(s, "\x00") || strings.ToValidUTF8(s, "") != s {
			return false
		}
	}
	return len(l.Token) > 0 && len(l.Token) <= 60 && len(l.Path) <= 12 && len(l.Owner) <= 512
}

// all tells the locks that aren't expired.
func (w *words) all(now int64) []api.Lock {
	var all []api.Lock
	for _, l := range w.locks {
		if l.Until > now {
			all = append(all, l)
		}
	}
	slices.SortFunc(all, func(a, b api.Lock) int { return strings.Compare(a.Token, b.Token) })
	return all
}

func (w *words) add(l api.Lock, now int64) api.Errno {
	if !good(l) || l.Until <= now {
		return api.ErrArg
	}
	all := w.all(now)
	for _, other := range all {
		if other.Token == l.Token {
			return api.ErrThere
		}
	}
	for _, other := range all {
		if clash(l, other) {
			return api.ErrLocked
		}
	}
	if len(all) >= 32 {
		return api.ErrFull
	}
	w.locks = append(all, l)
	return api.OK
}

func (w *words) refresh(token string, until, now int64) (api.Lock, api.Errno) {
	for i, l := range w.locks {
		if l.Token != token || l.Until <= now {
			continue
		}
		if until <= now {
			return api.Lock{}, api.ErrArg
		}
		w.locks[i].Until = until
		return w.locks[i], api.OK
	}
	return api.Lock{}, api.ErrNone
}

// less leaves the locks out for which something holds, and tells how many of them weren't expired.
func (w *words) less(now int64, goes func(l api.Lock) bool) int {
	gone := 0
	var rest []api.Lock
	for _, l := range w.locks {
		switch {
		case !goes(l):
			rest = append(rest, l)
		case l.Until > now:
			gone++
		}
	}
	w.locks = rest
	return gone
}

func (w *words) remove(token string, now int64) api.Errno {
	if w.less(now, func(l api.Lock) bool { return l.Token == token && l.Until > now }) == 0 {
		return api.ErrNone
	}
	return api.OK
}

func (w *words) drop(path []string, now int64) int {
	return w.less(now, func(l api.Lock) bool { return begins(l.Path, path) })
}

func (w *words) clone() *words {
	return &words{locks: slices.Clone(w.locks)}
}

// held is a table in a vault, and what the words say of it: of what is committed, and of the transaction that is open.
type held struct {
	t     *testing.T
	d     *disk.Disk
	log   int
	v     *vault.Vault
	x     *vault.Tx
	table *Table
	w     *words
	saved *words
}

func newHeld(t *testing.T, sectors, log int) *held {
	t.Helper()
	d := disk.New(sectors)
	v, err := vault.Make(d, log)
	wantErr(t, "Make of a vault", err, api.OK)
	h := &held{t: t, d: d, log: log, v: v, w: &words{}, saved: &words{}}
	h.begin()
	return h
}

func wantErr(t *testing.T, what string, got, want api.Errno) {
	t.Helper()
	if got != want {
		t.Fatalf("%s: error %d, want %d", what, got, want)
	}
}

func (h *held) begin() {
	h.t.Helper()
	x, err := h.v.Begin()
	wantErr(h.t, "Begin", err, api.OK)
	h.x, h.table = x, On(x)
}

// commit commits what was done, and goes on with the next transaction.
func (h *held) commit() {
	h.t.Helper()
	_, err := h.x.Commit()
	wantErr(h.t, "Commit", err, api.OK)
	wantErr(h.t, "Check", h.v.Check(), api.OK)
	h.saved = h.w.clone()
	h.begin()
}

// abort goes back to what was committed last.
func (h *held) abort() {
	h.t.Helper()
	h.x.Abort()
	h.w = h.saved.clone()
	h.begin()
}

// crash makes what is committed durable, and finds it again behind a crash.
func (h *held) crash() {
	h.t.Helper()
	h.x.Abort()
	wantErr(h.t, "Sync", h.v.Sync(), api.OK)
	h.d.Crash(nil)
	v, err := vault.Open(h.d, h.log)
	wantErr(h.t, "Open", err, api.OK)
	h.v, h.w = v, h.saved.clone()
	h.begin()
}

// always is a time at which no lock is expired: so all tells of it what is kept.
const always = math.MinInt64

// look holds all that is kept against the words, and that no two locks of it could not stand beside one another (P15.3):
// whatever time it is, those that aren't expired are among them. Nothing but locks is kept (P1, rule 6).
func (h *held) look() {
	h.t.Helper()
	h.all(always)
	for i, l := range h.w.locks {
		if slices.ContainsFunc(h.w.locks[i+1:], func(other api.Lock) bool { return clash(l, other) }) {
			h.t.Errorf("%+v stands beside a lock with which it clashes", l)
		}
	}
	pairs, err := h.x.Scan("", math.MaxInt)
	if len(pairs) != len(h.w.locks) || len(pairs) > 32 || err != api.OK {
		h.t.Errorf("%d pairs of %d locks, error %d", len(pairs), len(h.w.locks), err)
	}
}

// Each of these asks the table and the words the same, and holds one against the other.

func (h *held) all(now int64) {
	h.t.Helper()
	all, err := h.table.All(now)
	if want := h.w.all(now); !slices.EqualFunc(all, want, same) || err != api.OK {
		h.t.Errorf("All(%d) = %+v, error %d, want %+v", now, all, err, want)
	}
}

func (h *held) add(l api.Lock, now int64) {
	h.t.Helper()
	err := h.table.Add(l, now)
	if want := h.w.add(l, now); err != want {
		h.t.Errorf("Add(%.300q, %d): error %d, want %d", fmt.Sprint(l), now, err, want)
	}
}

func (h *held) refresh(token string, until, now int64) {
	h.t.Helper()
	l, err := h.table.Refresh(token, until, now)
	if want, wantErr := h.w.refresh(token, until, now); !same(l, want) || err != wantErr {
		h.t.Errorf("Refresh(%.70q, %d, %d) = %+v, error %d, want %+v, error %d", token, until, now, l, err, want, wantErr)
	}
}

func (h *held) remove(token string, now int64) {
	h.t.Helper()
	err := h.table.Remove(token, now)
	if want := h.w.remove(token, now); err != want {
		h.t.Errorf("Remove(%.70q, %d): error %d, want %d", token, now, err, want)
	}
}

func (h *held) drop(path []string, now int64) {
	h.t.Helper()
	gone, err := h.table.Drop(path, now)
	if want := h.w.drop(path, now); gone != want || err != api.OK {
		h.t.Errorf("Drop(%.70q, %d) = %d, error %d, want %d", path, now, gone, err, want)
	}
}

func same(a, b api.Lock) bool {
	return a.Token == b.Token && slices.Equal(a.Path, b.Path) && a.Deep == b.Deep && a.Exclusive == b.Exclusive && a.Owner == b.Owner && a.Until == b.Until
}

// source is where what is asked comes from.
type source interface {
	below(n int) int
}

// dice throws the same numbers in each run.
type dice uint64

func (x *dice) below(n int) int {
	*x = *x*6364136223846793005 + 1442695040888963407
	return int(uint64(*x) >> 33 % uint64(n))
}

// picks are numbers off bytes; behind the last one all are 0.
type picks []byte

func (p *picks) below(n int) int {
	if len(*p) == 0 {
		return 0
	}
	first := (*p)[0]
	*p = (*p)[1:]
	return int(first) % n
}

func one[T any](from source, list ...T) T {
	return list[from.below(len(list))]
}

// token is some token: most of few, so that they come again; few are none.
func token(from source) string {
	switch from.below(20) {
	case 0:
		return one(from, "", " ", "<", ">", "a b", "\x7f", "\x00", "\xff", strings.Repeat("t", 61), strings.Repeat("t", 200), "a\n")
	case 1:
		return one(from, "!", "~", "0", "ab", "wl", "/", strings.Repeat("t", 60), strings.Repeat("t", 59))
	}
	return "t" + fmt.Sprint(from.below(60))
}

// path is some path: most are short, so that they lie within each other; few are none.
func path(from source) []string {
	var all []string
	for range one(from, 0, 1, 1, 2, 2, 2, 3, 3, 4, 12) {
		all = append(all, one(from, "a", "b", "c", "d", "a", "b", "c", "d", "ab", "a!", "\u00e9", strings.Repeat("z", 64)))
	}
	if from.below(30) == 0 {
		return append(all, one(from, "", ".", "..", "a/b", "\x00", "\xff", strings.Repeat("z", 65)))
	}
	return all
}

// lockOf is some lock, most of them shared, so that many can stand beside one another.
func lockOf(from source, now int64) api.Lock {
	return api.Lock{
		Token:     token(from),
		Path:      path(from),
		Deep:      from.below(3) == 0,
		Exclusive: from.below(6) == 0,
		Owner:     strings.Repeat(one(from, "o", "\x00", "/", "\xff"), one(from, 0, 0, 0, 1, 40, 63, 64, 500, 512, 513)),
		Until:     until(from, now),
	}
}

// until is some time that is mostly soon to come.
func until(from source, now int64) int64 {
	if from.below(20) == 0 {
		return one(from, int64(math.MinInt64), math.MinInt64+1, -1, 0, 1, math.MaxInt64-1, math.MaxInt64)
	}
	return now - 2 + int64(from.below(60))
}

// time goes on from one time, mostly; in rare cases it goes back, or is at an end.
func time(from source, now int64) int64 {
	switch from.below(60) {
	case 0:
		return now - int64(from.below(40))
	case 1:
		return one(from, int64(math.MinInt64), math.MinInt64+1, math.MaxInt64-1, math.MaxInt64, 0)
	case 2:
		return 100
	}
	return now + int64(from.below(3))/2
}

// step asks one thing.
func (h *held) step(from source, now int64) {
	h.t.Helper()
	switch from.below(16) {
	case 0:
		h.all(now)
	case 1, 2:
		h.refresh(token(from), until(from, now), now)
	case 3:
		h.remove(token(from), now)
	case 4:
		if p := path(from); len(p) > from.below(3) {
			h.drop(p, now)
		}
	default:
		h.add(lockOf(from, now), now)
	}
}

// ends commits, aborts or crashes now and then.
func (h *held) ends(from source) {
	h.t.Helper()
	switch from.below(30) {
	case 0, 1:
		h.commit()
	case 2:
		h.abort()
	case 3:
		h.crash()
	}
}

// P15.2, P15.3, P1: long runs of calls of all sorts, in transactions that are committed, aborted and found again; the time
// goes on, and now and then back.
func TestAgainstTheWords(t *testing.T) {
	t.Parallel()
	most := 0
	for seed := range 16 {
		from := dice(seed)
		h := newHeld(t, 1000, 200)
		now := int64(100)
		for i := range 1200 {
			now = time(&from, now)
			h.step(&from, now)
			if i%3 == 0 {
				h.look()
				h.all(now)
			}
			h.ends(&from)
			most = max(most, len(h.w.locks))
			if t.Failed() {
				t.Fatalf("seed %d, step %d", seed, i)
			}
		}
		h.look()
	}
	if most != 32 {
		t.Errorf("there were no more than %d locks at a time", most)
	}
}

func FuzzWords(f *testing.F) {
	f.Add([]byte("abcdefghijklmnopqrstuvwxyz0123456789"))
	f.Fuzz(func(t *testing.T, data []byte) {
		from := picks(data[:min(len(data), 600)])
		h := newHeld(t, 1000, 200)
		for now := int64(100); len(from) > 0 && !t.Failed(); now = time(&from, now) {
			h.step(&from, now)
			h.look()
			h.ends(&from)
		}
	})
}
