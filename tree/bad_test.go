package tree

import (
	"maps"
	"slices"
	"strings"
	"testing"

	"docket/api"
)

// askAll asks everything of a tree whose pairs somebody else has changed: it ends, and doesn't panic.
func askAll(h *held) {
	for _, form := range []string{"", "a", "d", "d/x", "d/e", "no", "d/no", "d/e/x/y/z"} {
		for _, c := range calls() {
			c.do(h.tree, to(form))
		}
		h.tree.Copy(to("d"), to(form), true)
		h.tree.Move(to(form), to("d/e/new"))
	}
	h.tree.View()
}

// P1 (rule 1): pairs that no tree has left, in the stead of each one that it has.
func TestBadPairs(t *testing.T) {
	values := []string{
		"", " ", "0", "1", "2", "3", "99", "-1", "9223372036854775807", "x", "2 3 0 0 0 0 0", "1 2 3 4 5 6", "1 2 3 4 5 6 7 8", "1 2 3 4 5 6 x", " 2 3 4 5 6 7", "1  3 4 5 6 7",
		"-1 -1 -1 -1 -1 -1 -1", "2 1 0 0 0 99 99", "2 1 0 0 0 2 1", "1 1 0 0 0 3 3", "9223372036854775808 0 0 0 0 0 0",
		"9223372036854775807 9223372036854775807 9223372036854775807 0 0 9223372036854775807 9223372036854775807",
		"0 0", "-1 -1", "9223372036854775807 9223372036854775807", "1 2 3", "<a/>", "<a", strings.Repeat("x", 9000), strings.Repeat("1 ", 6000),
	}
	was := pairsOf(t, filled(t).x)
	for _, key := range slices.Sorted(maps.Keys(was)) {
		for _, value := range values {
			h := filled(t)
			wantErr(t, "Put", h.x.Put(key, value), api.OK)
			askAll(h)
		}
		h := filled(t)
		_, err := h.x.Delete(key)
		wantErr(t, "Delete", err, api.OK)
		askAll(h)
	}
}

// P1 (rules 1 and 3): what is no tree's is told to be bad, and nothing beside that.
func TestBadIsTold(t *testing.T) {
	form := textKey(readNumber(pairsOf(t, filled(t).x)[propKey(rootID, api.Prop{Space: "x", Name: "p"})]))
	for _, c := range []struct {
		key, value string
		want       func(tr *Tree) api.Errno
	}{
		{entryKey(noID, ""), "x", func(tr *Tree) api.Errno { _, err := tr.Stat(nil); return err }},
		{entryKey(noID, ""), "2 1 0 0 0 2", func(tr *Tree) api.Errno { _, err := tr.List(nil); return err }},
		{entryKey(noID, ""), "2 1 0 0 0 3 1", func(tr *Tree) api.Errno { _, err := tr.List(nil); return err }},
		{entryKey(noID, ""), "2 1 0 0 0 2 3", func(tr *Tree) api.Errno { _, err := tr.Props(nil); return err }},
		{entryKey(rootID, "a"), "1 2 3 4 5 6 7 8", func(tr *Tree) api.Errno { _, err := tr.Read(to("a")); return err }},
		{entryKey(rootID, "a"), "1 2 x 4 5 6 7", func(tr *Tree) api.Errno { _, err := tr.Walk(nil, 1); return err }},
		{propKey(rootID, api.Prop{Space: "x", Name: "p"}), "<p", func(tr *Tree) api.Errno { _, err := tr.Props(nil); return err }},
		{propKey(rootID, api.Prop{Space: "x", Name: "p"}), "<p", func(tr *Tree) api.Errno { refuseView(t, tr, api.ErrBad); return api.ErrBad }},
		{form, "<p", func(tr *Tree) api.Errno { _, err := tr.Props(nil); return err }},
		{form, "", func(tr *Tree) api.Errno { refuseView(t, tr, api.ErrBad); return api.ErrBad }},
		{numbersKey, "", func(tr *Tree) api.Errno { refuseView(t, tr, api.ErrBad); return api.ErrBad }},
		{numbersKey, "1 2 3", func(tr *Tree) api.Errno { _, err := tr.Put(to("a"), "x"); return err }},
		{numbersKey, "1", func(tr *Tree) api.Errno { return tr.Make(to("new")) }},
	} {
		h := filled(t)
		wantErr(t, "Put", h.x.Put(c.key, c.value), api.OK)
		if err := c.want(h.tree); err != api.ErrBad {
			t.Errorf("%q with %q: error %d", c.key, c.value, err)
		}
	}
}

// What is no trouble that was given up with is a fault of the package, and isn't hidden.
func TestFaultsShow(t *testing.T) {
	defer func() {
		if with := recover(); with != "a fault" {
			t.Errorf("recovered: %v", with)
		}
	}()
	filled(t).tree.attempt(func() { panic("a fault") })
}
