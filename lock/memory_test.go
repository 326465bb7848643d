package lock

import (
	"slices"
	"strings"
	"testing"
	"unsafe"

	"docket/api"
)

// part is some memory: where it begins, and where it ends.
type part struct {
	from, to uintptr
}

func partOf(s string) part {
	from := uintptr(unsafe.Pointer(unsafe.StringData(s)))
	return part{from, from + uintptr(len(s))}
}

// room is the memory of a list, its spare room included.
func room[T any](list []T) part {
	from := uintptr(unsafe.Pointer(unsafe.SliceData(list)))
	return part{from, from + uintptr(cap(list))*unsafe.Sizeof(*new(T))}
}

func (p part) meets(q part) bool {
	return p.from < q.to && q.from < p.to
}

// apart wants no two of these parts to meet.
func apart(t *testing.T, all []part) {
	t.Helper()
	for i, p := range all {
		if slices.ContainsFunc(all[i+1:], p.meets) {
			t.Errorf("memory is shared: %v", p)
		}
	}
}

func lockParts(l api.Lock) []part {
	parts := []part{partOf(l.Token), room(l.Path), partOf(l.Owner)}
	for _, s := range l.Path {
		parts = append(parts, partOf(s))
	}
	return parts
}

// spare is a lock with room behind its path, and memory of its own for each text.
func spare(token, form, owner string, until int64) api.Lock {
	l := api.Lock{Token: strings.Clone(token), Path: make([]string, 0, 20), Owner: strings.Clone(owner), Until: until}
	for _, s := range to(form) {
		l.Path = append(l.Path, strings.Clone(s))
	}
	return l
}

// some are locks with short texts, and with long ones.
func some() []api.Lock {
	return []api.Lock{
		spare("tt", "aa/bb/cc", "owner", 9), spare("t2", "aa", "", 9), spare("t3", "", strings.Repeat("long", 100), 9),
		spare(strings.Repeat("t", 60), "dd/"+strings.Repeat("e", 64), strings.Repeat("o", 512), 9), spare("t4", "aa/bb", "owner", 9),
	}
}

// P1 (rule 5): no answer shares memory with another one, with what was handed in, or within itself.
func TestMemory(t *testing.T) {
	h := newHeld(t, 300, 60)
	var parts []part
	for _, l := range some() {
		h.add(l, 0)
		parts = append(parts, lockParts(l)...)
	}
	for range 3 {
		all, err := h.table.All(0)
		wantErr(t, "All", err, api.OK)
		parts = append(parts, room(all))
		for _, l := range all {
			parts = append(parts, lockParts(l)...)
			l, err := h.table.Refresh(l.Token, l.Until+1, 0)
			wantErr(t, "Refresh", err, api.OK)
			parts = append(parts, lockParts(l)...)
		}
		h.saved = h.w.clone()
		_, err = h.x.Commit()
		wantErr(t, "Commit", err, api.OK)
		h.begin()
	}
	if len(parts) < 100 {
		t.Errorf("%d parts", len(parts))
	}
	apart(t, parts)
}

// P1 (rule 5): what is handed in is not changed, its spare room included, whatever is done with it.
func TestHandedInStays(t *testing.T) {
	h := newHeld(t, 300, 60)
	locks, tokens := some(), append(make([]string, 0, 9), "x", "t2")
	path := spare("", "aa/bb", "", 0).Path
	for range 2 {
		for _, l := range locks {
			Good(l)
			Covers(l, path)
			Covers(l, l.Path)
			Free(locks, l.Path, tokens)
			Free(locks, path, tokens)
			for _, other := range locks {
				Clash(l, other)
			}
			h.table.Add(l, 0)
			h.table.Add(l, 20)
			h.table.Drop(path, 0)
			h.table.Drop(l.Path, 0)
			h.table.Add(l, 0)
		}
	}
	for i, want := range some() {
		l := locks[i]
		if !same(l, want) || slices.ContainsFunc(l.Path[len(l.Path):cap(l.Path)], func(s string) bool { return s != "" }) {
			t.Errorf("%+v with %q behind its path, was %+v", l, l.Path[:cap(l.Path)], want)
		}
	}
	if !slices.Equal(path[:9], []string{"aa", "bb", "", "", "", "", "", "", ""}) || !slices.Equal(tokens[:4], []string{"x", "t2", "", ""}) {
		t.Errorf("the path is %q, the tokens are %q", path[:9], tokens[:4])
	}
}

// P1 (rule 5): nothing that was handed in or answered is kept: who changes it later changes nothing of the table.
func TestNothingIsKept(t *testing.T) {
	h := newHeld(t, 300, 60)
	for i, l := range some() {
		h.add(l, 0)
		h.w.locks[i] = some()[i]
		if len(l.Path) > 0 {
			l.Path[0] = "changed"
		}
		h.look()
	}
	all, err := h.table.All(0)
	wantErr(t, "All", err, api.OK)
	for i := range all {
		if len(all[i].Path) > 0 {
			all[i].Path[0] = "!"
		}
		all[i].Token, all[i].Until = "!", 0
	}
	l, err := h.table.Refresh("tt", 9, 0)
	wantErr(t, "Refresh", err, api.OK)
	l.Path[0] = "!"
	h.look()
}
