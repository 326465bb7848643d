package lock

import (
	"fmt"
	"math"
	"slices"
	"strings"
	"testing"

	"docket/api"
	"docket/disk"
	"docket/tree"
	"docket/vault"
)

// to makes a path of its form: segments between slashes.
func to(form string) []string {
	if form == "" {
		return nil
	}
	return strings.Split(form, "/")
}

// shared is a shared lock that is not deep; exclusive is an exclusive one.
func shared(token, form string, until int64) api.Lock {
	return api.Lock{Token: token, Path: to(form), Until: until}
}

func exclusive(token, form string, until int64) api.Lock {
	l := shared(token, form, until)
	l.Exclusive = true
	return l
}

func deep(l api.Lock) api.Lock {
	l.Deep = true
	return l
}

// longest is a lock of a token whose path and owner are as long as can be.
func longest(token string, until int64) api.Lock {
	l := api.Lock{Token: token + strings.Repeat("t", 60-len(token)), Owner: strings.Repeat("o", 512), Until: until}
	for range 12 {
		l.Path = append(l.Path, strings.Repeat("s", 64))
	}
	return l
}

// The chapter's examples.
func TestExamples(t *testing.T) {
	h := newHeld(t, 200, 40)
	t1, t2, t3 := deep(exclusive("t1", "a", 10)), shared("t2", "a/b", 10), exclusive("t3", "a", 20)
	wantErr(t, "Add of t1", h.table.Add(t1, 0), api.OK)
	wantErr(t, "Add of t2", h.table.Add(t2, 0), api.ErrLocked)
	t2.Until = 20
	wantErr(t, "Add of t2", h.table.Add(t2, 10), api.OK)
	if !Covers(t1, to("a/b")) || Covers(t1, to("ab")) {
		t.Errorf("Covers: %t, %t", Covers(t1, to("a/b")), Covers(t1, to("ab")))
	}
	wantErr(t, "Add of t3, deep", h.table.Add(deep(t3), 10), api.ErrLocked)
	wantErr(t, "Add of t3", h.table.Add(t3, 10), api.OK)
	for _, token := range []string{"t4", "t5"} {
		wantErr(t, "Add of a shared one", h.table.Add(shared(token, "b", 20), 10), api.OK)
	}
	if Free([]api.Lock{t1}, to("a/b"), nil) || !Free([]api.Lock{t1}, to("a/b"), []string{"t0", "t1"}) {
		t.Errorf("Free")
	}
}

// P15.1: tokens of each byte, and of lengths at and past their limits.
func TestGoodTokens(t *testing.T) {
	for c := range 256 {
		want := c >= 33 && c <= 126 && c != '<' && c != '>'
		for _, token := range []string{string([]byte{byte(c)}), string([]byte{'a', byte(c)}), string([]byte{byte(c), 'a'}), string([]byte{'a', byte(c), 'a'})} {
			if Good(shared(token, "a", 1)) != want {
				t.Errorf("Good of the token %q: %t", token, !want)
			}
		}
	}
	for size, want := range map[int]bool{0: false, 1: true, 59: true, 60: true, 61: false, 128: false, 1000: false} {
		if Good(shared(strings.Repeat("t", size), "a", 1)) != want {
			t.Errorf("Good of a token of %d bytes: %t", size, !want)
		}
	}
}

// P15.1: paths and owners at and past their limits; all else of a lock may be anything.
func TestGoodLocks(t *testing.T) {
	for _, c := range []struct {
		l    api.Lock
		want bool
	}{
		{api.Lock{}, false},
		{api.Lock{Token: "t"}, true},
		{shared("t", "a", math.MinInt64), true},
		{deep(exclusive("t", "a", math.MaxInt64)), true},
		{longest("t", 0), true},
		{shared("t", "1/2/3/4/5/6/7/8/9/10/11/12", 1), true},
		{shared("t", "1/2/3/4/5/6/7/8/9/10/11/12/13", 1), false},
		{shared("t", strings.Repeat("s", 65), 1), false},
		{shared("t", "a//b", 1), false},
		{shared("t", "a/..", 1), false},
		{shared("t", "./a", 1), false},
		{shared("t", "\xff", 1), false},
		{shared("t", "a\x00", 1), false},
		{api.Lock{Token: "t", Path: []string{"a/b"}}, false},
		{api.Lock{Token: "t", Path: []string{""}}, false},
		{api.Lock{Token: "t", Owner: strings.Repeat("\xff\x00<", 170) + "ab"}, true},
		{api.Lock{Token: "t", Owner: strings.Repeat("\xff\x00<", 171)}, false},
	} {
		if Good(c.l) != c.want || good(c.l) != c.want {
			t.Errorf("Good(%.200q) = %t", fmt.Sprint(c.l), Good(c.l))
		}
	}
}

// paths are all paths of at most so many segments, each of which is one of some.
func paths(most int, segments ...string) [][]string {
	all := [][]string{nil}
	for begin := 0; most > 0; most-- {
		end := len(all)
		for _, path := range all[begin:end] {
			for _, s := range segments {
				all = append(all, append(slices.Clone(path), s))
			}
		}
		begin = end
	}
	return all
}

// kindsOf are locks of a path, of all four kinds.
func kindsOf(token string, path []string) []api.Lock {
	l := api.Lock{Token: token, Path: path}
	x := l
	x.Exclusive = true
	return []api.Lock{l, x, deep(l), deep(x)}
}

// P15.1: Covers and Clash of all short paths, good or not: two locks clash if one is exclusive and any path is covered by both.
func TestCoversAndClash(t *testing.T) {
	all := append(paths(3, "a", "ab", ""), to("1/2/3/4/5/6/7/8/9/10/11/12"), to("1/2/3/4/5/6/7/8/9/10/11/12/13"), to("1/2/3/4/5/6/7/8/9/10/11/12/14"))
	for _, first := range all {
		for i, a := range kindsOf("", first) {
			for _, path := range all {
				begins := len(path) >= len(first) && slices.Equal(path[:len(first)], first)
				if want := begins && (i >= 2 || len(path) == len(first)); Covers(a, path) != want {
					t.Fatalf("Covers(%+v, %q) = %t", a, path, !want)
				}
			}
			for _, second := range all {
				for _, b := range kindsOf("", second) {
					want := (a.Exclusive || b.Exclusive) && slices.ContainsFunc(all, func(path []string) bool { return Covers(a, path) && Covers(b, path) })
					if Clash(a, b) != want {
						t.Fatalf("Clash(%+v, %+v) = %t", a, b, !want)
					}
				}
			}
		}
	}
}

// P15.1, P1 (rule 4): nil and empty paths are one and the same.
func TestEmptyPaths(t *testing.T) {
	for _, a := range [][]string{nil, {}} {
		for _, b := range [][]string{nil, {}} {
			for _, l := range kindsOf("t", a) {
				if !Covers(l, b) || !Clash(exclusive("u", "", 1), l) || Free([]api.Lock{l}, b, nil) || Covers(l, to("a")) != l.Deep {
					t.Errorf("%+v and %v", l, b)
				}
			}
		}
		h := newHeld(t, 200, 40)
		h.add(api.Lock{Token: "t", Path: a, Until: 9}, 0)
		h.add(api.Lock{Token: "u", Path: to("a"), Until: 9}, 0)
		h.look()
		h.drop(a, 0)
		h.look()
	}
}

// P15.1: one token of a lock that covers the path is enough, wherever it stands; tokens of others are none.
func TestFree(t *testing.T) {
	locks := []api.Lock{deep(shared("1", "", 1)), shared("2", "a", 1), exclusive("3", "a/b", 1), deep(exclusive("4", "a", 1)), shared("4", "c", 1), shared("", "c", 1)}
	tokens := []string{"", "1", "2", "3", "4", "x"}
	for bits := range 1 << len(locks) {
		var some []api.Lock
		for i, l := range locks {
			if bits>>i&1 == 1 {
				some = append(some, l)
			}
		}
		for which := range 1 << len(tokens) {
			var has []string
			for i, token := range tokens {
				if which>>i&1 == 1 {
					has = append(has, token)
				}
			}
			for _, path := range paths(2, "a", "b", "c") {
				bars, opens := false, false
				for _, l := range some {
					bars = bars || covers(l, path)
					opens = opens || covers(l, path) && slices.Contains(has, l.Token)
				}
				if want := !bars || opens; Free(some, path, has) != want {
					t.Fatalf("Free(%+v, %q, %q) = %t", some, path, has, !want)
				}
			}
		}
	}
}

// call is one of the table's calls: does it answer nothing beside its error?
type call struct {
	what string
	do   func(r *Table) (bool, api.Errno)
}

// calls are all calls, each of which would find the lock t of a/b at the time 0.
func calls() []call {
	return []call{
		{"All", func(r *Table) (bool, api.Errno) {
			all, err := r.All(0)
			return len(all) == 0, err
		}},
		{"Add", func(r *Table) (bool, api.Errno) { return true, r.Add(shared("new", "new", 9), 0) }},
		{"Add of what is there", func(r *Table) (bool, api.Errno) { return true, r.Add(shared("t", "a/b", 9), 0) }},
		{"Refresh", func(r *Table) (bool, api.Errno) {
			l, err := r.Refresh("t", 9, 0)
			return same(l, api.Lock{}), err
		}},
		{"Refresh that ends", func(r *Table) (bool, api.Errno) {
			l, err := r.Refresh("t", 0, 0)
			return same(l, api.Lock{}), err
		}},
		{"Refresh of no token", func(r *Table) (bool, api.Errno) {
			l, err := r.Refresh(strings.Repeat("t", 200), 9, 0)
			return same(l, api.Lock{}), err
		}},
		{"Remove", func(r *Table) (bool, api.Errno) { return true, r.Remove("t", 0) }},
		{"Remove of no token", func(r *Table) (bool, api.Errno) { return true, r.Remove("", 0) }},
		{"Drop", func(r *Table) (bool, api.Errno) {
			gone, err := r.Drop(nil, 0)
			return gone == 0, err
		}},
		{"Drop of no path", func(r *Table) (bool, api.Errno) {
			gone, err := r.Drop([]string{""}, 0)
			return gone == 0, err
		}},
	}
}

// refuse holds that each call answers an error, and nothing beside it.
func refuse(t *testing.T, r *Table, want api.Errno) {
	t.Helper()
	for _, c := range calls() {
		if zero, err := c.do(r); !zero || err != want {
			t.Errorf("%s: zero: %t, error %d, want %d", c.what, zero, err, want)
		}
	}
}

// Types: of no table, and of one in no transaction, each call answers ErrNone, whatever it is asked.
func TestNone(t *testing.T) {
	for _, r := range []*Table{nil, On(nil), new(Table)} {
		refuse(t, r, api.ErrNone)
		wantErr(t, "Add of no good lock", r.Add(api.Lock{}, 0), api.ErrNone)
		wantErr(t, "Add of an expired one", r.Add(shared("t", "a", 0), 0), api.ErrNone)
	}
}

// filled is a table with two locks of a/b and one of c; e is expired from 5 on.
func filled(t *testing.T) *held {
	t.Helper()
	h := newHeld(t, 300, 60)
	h.add(shared("t", "a/b", 20), 0)
	h.add(deep(shared("e", "a/b", 5)), 0)
	h.add(deep(exclusive("x", "c", 30)), 0)
	h.look()
	return h
}

// Types: a table is of use as long as its transaction is open. A lock that is none is told first.
func TestEnded(t *testing.T) {
	for _, end := range []func(h *held){
		func(h *held) { h.x.Abort() },
		func(h *held) { h.x.Commit() },
	} {
		h := filled(t)
		end(h)
		refuse(t, h.table, api.ErrNone)
		wantErr(t, "Add of no good lock", h.table.Add(api.Lock{}, 0), api.ErrArg)
	}
}

// Errors: those of the transaction come as they are, and spoil it.
func TestSpoilt(t *testing.T) {
	h := newHeld(t, 52, 12)
	h.add(shared("t", "a/b", 9), 0)
	err := api.OK
	for i := 0; err == api.OK; i++ {
		err = h.table.Add(longest(fmt.Sprint(i), 9), 0)
	}
	wantErr(t, "Add without room", err, api.ErrSpace)
	refuse(t, h.table, api.ErrSpace)
	_, err = h.x.Commit()
	wantErr(t, "Commit", err, api.ErrSpace)
	h.abort()
	h.look()
}

// Errors: a dead device is told by each call, even where no lock lies there yet.
func TestDead(t *testing.T) {
	for _, h := range []*held{newHeld(t, 200, 40), filled(t)} {
		h.d.Fuel(0)
		wantErr(t, "Flush without fuel", h.d.Flush(), api.ErrDead)
		refuse(t, h.table, api.ErrDead)
		wantErr(t, "Add of no good lock", h.table.Add(api.Lock{}, 0), api.ErrArg)
	}
}

// P15.2: which of several errors is told, and that nothing has changed then, not even of what is expired.
func TestErrorsOfAdd(t *testing.T) {
	h := filled(t)
	for _, c := range []struct {
		l    api.Lock
		now  int64
		want api.Errno
	}{
		{shared("", "new", 9), 0, api.ErrArg},
		{shared("t\x7f", "a/b", 9), 0, api.ErrArg},
		{shared("t", "c/..", 9), 0, api.ErrArg},
		{api.Lock{Token: "t", Path: to("c"), Owner: strings.Repeat("o", 513), Until: 9}, 0, api.ErrArg},
		{shared("new", "new", 7), 7, api.ErrArg},
		{shared("t", "c", 7), 7, api.ErrArg},
		{shared("new", "new", 7), 8, api.ErrArg},
		{shared("new", "new", math.MinInt64), math.MinInt64, api.ErrArg},
		{shared("t", "new", 21), 19, api.ErrThere},
		{exclusive("t", "c", 21), 7, api.ErrThere},
		{shared("x", "c", 40), 29, api.ErrThere},
		{shared("e", "new", 9), 4, api.ErrThere},
		{exclusive("new", "a/b", 21), 7, api.ErrLocked},
		{deep(exclusive("new", "a", 21)), 7, api.ErrLocked},
		{deep(exclusive("new", "", 21)), 7, api.ErrLocked},
		{deep(shared("new", "", 21)), 7, api.ErrLocked},
		{exclusive("new", "a/b/c/d", 21), 4, api.ErrLocked},
		{shared("e", "c/d/e", 21), 7, api.ErrLocked},
		{shared("new", "c", 40), 29, api.ErrLocked},
	} {
		wantErr(t, fmt.Sprintf("Add(%.100q, %d)", fmt.Sprint(c.l), c.now), h.table.Add(c.l, c.now), c.want)
		h.look()
	}
}

// P15.2: 32 locks that aren't expired, and no more; expired ones don't count.
func TestFull(t *testing.T) {
	h := newHeld(t, 600, 200)
	for i := range 32 {
		h.add(shared(fmt.Sprint("t", i), "a", 10+int64(i%2)), 0)
		h.look()
	}
	h.commit()
	full := func(token string, now int64, want api.Errno) {
		t.Helper()
		wantErr(t, "Add of "+token, h.table.Add(shared(token, "a", 99), now), want)
		h.w.add(shared(token, "a", 99), now)
		h.look()
	}
	full("new", 0, api.ErrFull)
	full("new", 9, api.ErrFull)
	full("t7", 9, api.ErrThere)
	wantErr(t, "Add of one that clashes", h.table.Add(exclusive("new", "a", 99), 9), api.ErrLocked)
	wantErr(t, "Add of one that is expired", h.table.Add(shared("new", "a", 9), 9), api.ErrArg)
	h.add(exclusive("new", "b", 99), 9)
	h.look()
	full("new", 10, api.OK)
	for i := range 20 {
		full(fmt.Sprint("more", i), 0, []api.Errno{api.OK, api.ErrFull}[i/15])
	}
	h.remove("t1", 0)
	full("last", 0, api.OK)
	full("more", 0, api.ErrFull)
	h.commit()
	h.look()
}

// P15.2: the time at which a lock ends, and those beside it, at both ends of numbers, too.
func TestExpired(t *testing.T) {
	for _, end := range []int64{math.MinInt64 + 1, -1, 0, 1, 3600, math.MaxInt64 - 1} {
		for _, now := range []int64{end - 1, end, end + 1} {
			h := newHeld(t, 200, 40)
			h.add(exclusive("t", "a", end), math.MinInt64)
			h.look()
			for _, at := range []int64{math.MinInt64, end - 1, end, end + 1, math.MaxInt64} {
				h.all(at)
			}
			h.commit()
			for _, ask := range []func(){
				func() { h.refresh("t", end+1, now) },
				func() { h.refresh("t", end, now) },
				func() { h.refresh("t", now, now) },
				func() { h.refresh("t", math.MaxInt64, now) },
				func() { h.refresh("t", math.MinInt64, now) },
				func() { h.remove("t", now) },
				func() { h.drop(to("a"), now) },
				func() { h.drop(to("b"), now) },
				func() { h.add(exclusive("t", "b", math.MaxInt64), now) },
				func() { h.add(exclusive("u", "a", math.MaxInt64), now) },
				func() { h.add(exclusive("u", "b", math.MaxInt64), now) },
				func() { h.add(exclusive("u", "b", now), now) },
				func() { h.add(exclusive("t", "a", math.MinInt64), now) },
			} {
				ask()
				h.look()
				h.all(now)
				h.abort()
			}
		}
	}
}

// P15.2: only Add and Drop forget what is expired: where the time goes back, it is there again.
func TestForgotten(t *testing.T) {
	h := filled(t)
	h.all(5)
	h.refresh("e", 50, 5)
	h.remove("e", 5)
	h.refresh("t", 21, 5)
	h.remove("x", 5)
	h.drop(to("a/b/c"), 5)
	h.drop(to("c"), 5)
	h.add(shared("t", "a/b", 30), 5)
	h.add(exclusive("new", "a/b", 30), 5)
	h.look()
	h.all(4)
	if all, _ := h.table.All(4); len(all) != 2 {
		t.Errorf("All = %+v", all)
	}
	h.commit()
	for _, ask := range []func(){
		func() { h.add(shared("new", "b", 30), 5) },
		func() { h.add(shared("e", "b", 30), 5) },
		func() { h.drop(to("a"), 5) },
		func() { h.refresh("e", 50, 4) },
		func() { h.remove("e", 4) },
	} {
		ask()
		h.look()
		h.all(4)
		h.abort()
	}
}

// P15.3: a lock that is expired, and refreshed once the time has gone back, finds none that has taken its place.
func TestTimeGoesBack(t *testing.T) {
	h := newHeld(t, 200, 40)
	h.add(exclusive("old", "a", 10), 0)
	h.add(exclusive("new", "a", 20), 10)
	h.refresh("old", 30, 0)
	h.add(exclusive("old", "a", 30), 0)
	h.remove("old", 0)
	h.look()
	h.add(exclusive("other", "a", 30), 9)
	h.look()
	h.refresh("new", 40, 9)
	h.all(35)
	h.look()
}

// P15.2: a lock is told as it was added, but for its Until; which tokens and times are told first.
func TestRefresh(t *testing.T) {
	h := newHeld(t, 400, 100)
	all := []api.Lock{
		{Token: "t1", Until: 9},
		{Token: "t2", Path: to("a"), Deep: true, Owner: "<owner>\x00/</owner>", Until: 9},
		{Token: "t", Path: to("b"), Exclusive: true, Until: 9},
		deep(longest("t", 9)),
		{Token: "~!/", Path: []string{"\u00e9 0", "1", "-1"}, Exclusive: true, Owner: "\x00\x00", Until: 9},
	}
	for _, l := range all {
		h.add(l, 0)
	}
	h.look()
	for i, l := range all {
		for _, until := range []int64{1, 2, 9, 10, math.MaxInt64, 0, -1, math.MinInt64, 7} {
			h.refresh(l.Token, until, 0)
			h.all(8 - int64(i))
		}
		h.look()
	}
	for _, token := range []string{"", "T1", "t", "t3", "t11", strings.Repeat("t", 61), strings.Repeat("t", 59), strings.Repeat("t", 500), "\x00", "wl", "<t1>"} {
		h.refresh(token, 9, 0)
		h.refresh(token, 0, 0)
		h.refresh(token, 9, 8)
	}
	h.look()
	h.crash()
	h.commit()
	h.look()
}

// P15.2: a lock that was removed is gone, and no other one.
func TestRemove(t *testing.T) {
	h := filled(t)
	h.add(shared("tt", "a", 20), 0)
	for _, token := range []string{"", "T", "t1", "tx", "wl", "<t>", strings.Repeat("t", 128), strings.Repeat("t", 126), "\x00"} {
		h.remove(token, 0)
	}
	h.look()
	h.commit()
	for _, token := range []string{"t", "e", "x", "tt"} {
		for _, now := range []int64{0, 4, 5, 20, 30} {
			h.remove(token, now)
			h.remove(token, now)
			h.look()
			h.abort()
		}
	}
}

// P15.2: all locks within go, the expired ones too, though these aren't counted; lists that are no paths hold none.
func TestDrop(t *testing.T) {
	h := newHeld(t, 600, 100)
	for i, form := range []string{"", "a", "a", "a/b", "a/b/c", "a/bb", "ab", "a!", "b", "b/a", "b/a"} {
		h.add(shared(fmt.Sprint("t", i), form, 10*int64(1+i%3)), 0)
		h.add(deep(shared(fmt.Sprint("d", i), form, 10*int64(1+i%2))), 0)
	}
	h.commit()
	for _, path := range append(paths(3, "a", "b", "ab"), []string{""}, []string{"a", ""}, []string{"a/b"}, []string{".."}, to("1/2/3/4/5/6/7/8/9/10/11/12/13")) {
		for _, now := range []int64{math.MinInt64, 9, 10, 20, 30, math.MaxInt64} {
			h.drop(path, now)
			h.look()
			h.drop(path, now)
			h.abort()
		}
	}
}

// P15.2: locks are told in the order of their tokens' bytes, whatever order they came in.
func TestOrder(t *testing.T) {
	h := newHeld(t, 600, 200)
	for _, token := range []string{"b", "a", "ab", "B", "a!", "~", "!", "10", "9", "aa", strings.Repeat("a", 60), "urn:docket:10", "urn:docket:9", "urn:docket:1"} {
		h.add(shared(token, "z", 9), 0)
		h.all(0)
	}
	h.look()
}

// P15.2: a call that looks, and one that is refused, leave nothing to commit; nor do those that change nothing.
func TestNothingToCommit(t *testing.T) {
	h := filled(t)
	h.commit()
	done := h.v.Done()
	h.all(0)
	h.all(50)
	h.add(api.Lock{}, 0)
	h.add(shared("new", "new", 9), 9)
	h.add(shared("t", "new", 99), 9)
	h.add(shared("new", "c", 99), 9)
	h.refresh("t", 20, 9)
	h.refresh("t", 9, 9)
	h.refresh("e", 9, 5)
	h.remove("e", 5)
	h.remove("no", 0)
	h.drop(to("a/b/c"), 0)
	h.drop(to("d"), 0)
	h.look()
	h.commit()
	if h.v.Done() != done {
		t.Errorf("Done was %d, and is %d", done, h.v.Done())
	}
}

// P1 (rule 6): two tables on one transaction are one table; what was aborted is seen by none.
func TestTablesOfOneTransaction(t *testing.T) {
	h := filled(t)
	h.commit()
	first, second := h.table, On(h.x)
	for i := range 20 {
		h.table = []*Table{first, second}[i%2]
		h.add(shared(fmt.Sprint("t", i), fmt.Sprint("d/", i%3), 20), 0)
		h.refresh(fmt.Sprint("t", i-1), 30, 0)
		h.remove(fmt.Sprint("t", i-3), 0)
		h.look()
	}
	for _, h.table = range []*Table{first, second} {
		h.look()
	}
	h.abort()
	h.look()
}

// A vault holds others' pairs, too, a tree's among them: they are none of the table's, and stay what they are.
func TestOthersPairs(t *testing.T) {
	d := disk.New(1200)
	v, err := vault.Make(d, 200)
	wantErr(t, "Make of a vault", err, api.OK)
	x, err := v.Begin()
	wantErr(t, "Begin", err, api.OK)
	h := &held{t: t, d: d, v: v, x: x, table: On(x), w: &words{}}
	keys := []string{"\x00", "a", "l", "t", "w", "wk", "wk\xff", "wm", "x", "\xff", strings.Repeat("\xff", 128)}
	for _, key := range keys {
		wantErr(t, "Put", x.Put(key, strings.Repeat("mine "+key, 50)), api.OK)
	}
	r := tree.On(x)
	for i := range 30 {
		_, err := r.Put(to(fmt.Sprint("f", i)), strings.Repeat("body", i*10))
		wantErr(t, "Put of a file", err, api.OK)
	}
	was, _, err := r.View()
	wantErr(t, "View", err, api.OK)
	look := func() {
		t.Helper()
		h.all(always)
		all, _, err := r.View()
		if fmt.Sprint(all) != fmt.Sprint(was) || err != api.OK {
			t.Errorf("View = %v, error %d", all, err)
		}
		for _, key := range keys {
			if value, there, err := x.Get(key); value != strings.Repeat("mine "+key, 50) || !there || err != api.OK {
				t.Errorf("Get(%q) = %q, %t, error %d", key, value, there, err)
			}
		}
	}
	look()
	for i := range 33 {
		h.add(shared(fmt.Sprint("t", i), fmt.Sprint("f", i), 10+int64(i)), 0)
	}
	look()
	h.refresh("t3", 99, 0)
	h.remove("t30", 0)
	h.add(shared("new", "f0", 99), 12)
	h.drop(to("f7"), 20)
	look()
	h.drop(nil, 0)
	look()
}

// 32 locks that are as long as can be are so little that one transaction adds them all, one that comes when they are all
// expired takes their place, and one takes them all away, in a log of 700; and a world's smallest log has room for a lock.
func TestRoom(t *testing.T) {
	h := newHeld(t, 4096, 700)
	fill := func(now int64) {
		t.Helper()
		for i := range 32 {
			h.add(longest(fmt.Sprint(i, "-"), now+1), now)
		}
		h.look()
	}
	fill(0)
	h.commit()
	h.add(longest("new", 9), 5)
	h.look()
	h.commit()
	fill(9)
	h.commit()
	for i := range 32 {
		h.refresh(longest(fmt.Sprint(i, "-"), 0).Token, 20, 9)
	}
	h.commit()
	h.look()
	h.drop(nil, 0)
	h.look()
	h.commit()
	if len(h.w.locks) != 0 {
		t.Errorf("%d locks", len(h.w.locks))
	}
	h = newHeld(t, 64, 6)
	h.add(deep(api.Lock{Token: "urn:docket:1", Path: to("a"), Exclusive: true, Owner: `<owner xmlns="DAV:">me</owner>`, Until: 3600}), 0)
	h.commit()
	h.crash()
	h.look()
}
