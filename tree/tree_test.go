package tree

import (
	"fmt"
	"math"
	"slices"
	"strings"
	"testing"

	"docket/api"
	"docket/disk"
	"docket/vault"
)

func wantErr(t *testing.T, what string, got, want api.Errno) {
	t.Helper()
	if got != want {
		t.Errorf("%s: error %d, want %d", what, got, want)
	}
}

// to makes a path of its form: segments between slashes.
func to(form string) []string { return split(form) }

// element is an element with a text, or without one.
func element(space, name, text string) api.Node {
	n := api.Node{Space: space, Name: name}
	if text != "" {
		n.Kids = []api.Node{{Text: text}}
	}
	return n
}

// sized is an element whose form has so many bytes.
func sized(space, name string, size int) api.Node {
	const frame = len(`< xmlns=""></>`)
	return element(space, name, strings.Repeat("x", size-frame-2*len(name)-len(space)))
}

// call is one of the tree's calls on paths: does it answer nothing beside its error?
type call struct {
	what string
	do   func(tr *Tree, path []string) (bool, api.Errno)
}

// calls are all calls that take a path; those that take two get a good one for the other.
func calls() []call {
	other := to("other")
	return []call{
		{"Stat", func(tr *Tree, path []string) (bool, api.Errno) {
			info, err := tr.Stat(path)
			return info == api.Info{}, err
		}},
		{"Read", func(tr *Tree, path []string) (bool, api.Errno) {
			body, err := tr.Read(path)
			return body == "", err
		}},
		{"List", func(tr *Tree, path []string) (bool, api.Errno) {
			names, err := tr.List(path)
			return len(names) == 0, err
		}},
		{"Put", func(tr *Tree, path []string) (bool, api.Errno) {
			made, err := tr.Put(path, "x")
			return !made, err
		}},
		{"Make", func(tr *Tree, path []string) (bool, api.Errno) { return true, tr.Make(path) }},
		{"Delete", func(tr *Tree, path []string) (bool, api.Errno) { return true, tr.Delete(path) }},
		{"Copy from", func(tr *Tree, path []string) (bool, api.Errno) { return true, tr.Copy(path, other, true) }},
		{"Copy to", func(tr *Tree, path []string) (bool, api.Errno) { return true, tr.Copy(other, path, false) }},
		{"Move from", func(tr *Tree, path []string) (bool, api.Errno) { return true, tr.Move(path, other) }},
		{"Move to", func(tr *Tree, path []string) (bool, api.Errno) { return true, tr.Move(other, path) }},
		{"Props", func(tr *Tree, path []string) (bool, api.Errno) {
			props, err := tr.Props(path)
			return len(props) == 0, err
		}},
		{"SetProp", func(tr *Tree, path []string) (bool, api.Errno) {
			return true, tr.SetProp(path, element("x", "p", ""))
		}},
		{"DropProp", func(tr *Tree, path []string) (bool, api.Errno) {
			was, err := tr.DropProp(path, api.Prop{Space: "x", Name: "p"})
			return !was, err
		}},
		{"Walk", func(tr *Tree, path []string) (bool, api.Errno) {
			paths, err := tr.Walk(path, -1)
			return len(paths) == 0, err
		}},
	}
}

// refuse holds that each call on a path answers an error, and nothing beside it.
func refuse(t *testing.T, tr *Tree, path []string, want api.Errno) {
	t.Helper()
	for _, c := range calls() {
		if zero, err := c.do(tr, path); !zero || err != want {
			t.Errorf("%s(%.70q): zero: %t, error %d, want %d", c.what, path, zero, err, want)
		}
	}
}

func refuseView(t *testing.T, tr *Tree, want api.Errno) {
	t.Helper()
	if all, etags, err := tr.View(); len(all) != 0 || etags != 0 || err != want {
		t.Errorf("View: %d resources, %d, error %d, want %d", len(all), etags, err, want)
	}
}

// badPaths are lists that are no paths.
func badPaths() [][]string {
	return [][]string{
		{""}, {"."}, {".."}, {"a/b"}, {"/"}, {"a\x00"}, {"\xff"}, {"\xed\xa0\x80"}, {strings.Repeat("z", 65)},
		{"a", ""}, {"", "a"}, {"a", "..", "b"}, strings.Split(strings.Repeat("s", 13), ""),
	}
}

// filled is a tree with files, collections and properties: a and d/x are files.
func filled(t *testing.T) *held {
	t.Helper()
	h := newHeld(t, 2400, 600)
	h.put("x", "a")
	h.put("y", "a")
	h.make("d")
	h.put("z", "d", "x")
	h.make("d", "e")
	h.setProp(element("x", "p", "1"), "a")
	h.setProp(element("x", "p", "2"), "d")
	h.setProp(element("x", "p", "3"), "d", "x")
	h.setProp(element("x", "p", "4"))
	h.look()
	return h
}

// The chapter's examples.
func TestExamples(t *testing.T) {
	h := newHeld(t, 200, 40)
	tr := h.tree
	for i, want := range []bool{true, false} {
		if made, err := tr.Put(to("a"), []string{"x", "y"}[i]); made != want || err != api.OK {
			t.Errorf("Put of a: %t, error %d", made, err)
		}
	}
	wantInfo(t, tr, "a", api.Info{Kind: api.File, Size: 1, Etag: 2})
	_, err := tr.Put(to("b/c"), "x")
	wantErr(t, "Put below nothing", err, api.ErrParent)
	wantErr(t, "Make", tr.Make(to("b")), api.OK)
	_, err = tr.Put(to("b/c"), "z")
	wantErr(t, "Put", err, api.OK)
	wantInfo(t, tr, "b/c", api.Info{Kind: api.File, Size: 1, Etag: 3})
	wantList(t, tr, "", "a", "b")
	wantErr(t, "Copy", tr.Copy(to("b"), to("d"), true), api.OK)
	wantInfo(t, tr, "d/c", api.Info{Kind: api.File, Size: 1, Etag: 4})
	wantErr(t, "Copy", tr.Copy(to("b"), to("e"), false), api.OK)
	wantList(t, tr, "e")
	wantErr(t, "Move into itself", tr.Move(to("b"), to("b/x")), api.ErrSelf)
	wantErr(t, "Move", tr.Move(to("a"), to("b/a")), api.OK)
	wantInfo(t, tr, "a", api.Info{})
	wantInfo(t, tr, "b/a", api.Info{Kind: api.File, Size: 1, Etag: 2})
	wantErr(t, "Delete", tr.Delete(to("b")), api.OK)
	wantList(t, tr, "", "d", "e")
	wantErr(t, "Delete of the root", tr.Delete(nil), api.ErrKind)
}

func wantInfo(t *testing.T, tr *Tree, form string, want api.Info) {
	t.Helper()
	if info, err := tr.Stat(to(form)); info != want || err != api.OK {
		t.Errorf("Stat(%q) = %+v, error %d, want %+v", form, info, err, want)
	}
}

func wantBody(t *testing.T, tr *Tree, form, want string) {
	t.Helper()
	if body, err := tr.Read(to(form)); body != want || err != api.OK {
		t.Errorf("Read(%q) = %.40q, error %d, want %.40q", form, body, err, want)
	}
}

func wantList(t *testing.T, tr *Tree, form string, want ...string) {
	t.Helper()
	if names, err := tr.List(to(form)); !slices.Equal(names, want) || err != api.OK {
		t.Errorf("List(%q) = %q, error %d, want %q", form, names, err, want)
	}
}

// Types: of no tree, and of one in no transaction, each call answers ErrNone, whatever the path is.
func TestNone(t *testing.T) {
	for _, tr := range []*Tree{nil, On(nil), new(Tree)} {
		for _, path := range append(badPaths(), nil, to("a"), to("a/b")) {
			refuse(t, tr, path, api.ErrNone)
		}
		_, err := tr.Put(to("a"), strings.Repeat("x", 8193))
		wantErr(t, "Put of too much", err, api.ErrNone)
		wantErr(t, "SetProp of none", tr.SetProp(nil, api.Node{}), api.ErrNone)
		refuseView(t, tr, api.ErrNone)
	}
}

// P14.1 to P14.6: a path that isn't good is told first, and nothing has changed.
func TestBadPaths(t *testing.T) {
	h := filled(t)
	for _, path := range badPaths() {
		refuse(t, h.tree, path, api.ErrArg)
		_, err := h.tree.Put(path, strings.Repeat("x", 8193))
		wantErr(t, "Put of too much", err, api.ErrArg)
		wantErr(t, "SetProp of none", h.tree.SetProp(path, api.Node{}), api.ErrArg)
		for _, from := range []string{"", "a", "no"} {
			wantErr(t, "Copy", h.tree.Copy(to(from), path, true), api.ErrArg)
			wantErr(t, "Move", h.tree.Move(to(from), path), api.ErrArg)
		}
	}
	h.look()
}

// Types: a tree is of use as long as its transaction is open.
func TestEnded(t *testing.T) {
	for _, end := range []func(h *held){
		func(h *held) { h.x.Abort() },
		func(h *held) { h.x.Commit() },
	} {
		h := filled(t)
		end(h)
		for _, form := range []string{"", "a", "d", "d/x", "no", "no/no"} {
			refuse(t, h.tree, to(form), api.ErrNone)
		}
		refuseView(t, h.tree, api.ErrNone)
		refuse(t, h.tree, []string{""}, api.ErrArg)
	}
}

// Errors: those of the transaction come as they are, and spoil it.
func TestSpoilt(t *testing.T) {
	h := newHeld(t, 40, 12)
	h.put("x", "a")
	h.make("d")
	var err api.Errno
	for i := 0; err == api.OK; i++ {
		_, err = h.tree.Put(to("d/"+fmt.Sprint(i)), strings.Repeat("x", 5000))
	}
	wantErr(t, "Put without room", err, api.ErrSpace)
	for _, form := range []string{"", "a", "d", "d/0", "no", "no/no"} {
		refuse(t, h.tree, to(form), api.ErrSpace)
	}
	refuseView(t, h.tree, api.ErrSpace)
	refuse(t, h.tree, []string{""}, api.ErrArg)
	_, err = h.x.Commit()
	wantErr(t, "Commit", err, api.ErrSpace)
}

// Errors: a dead device is told by each call, even where nothing lies there yet.
func TestDead(t *testing.T) {
	for _, h := range []*held{newHeld(t, 200, 40), filled(t)} {
		h.d.Fuel(0)
		wantErr(t, "Flush without fuel", h.d.Flush(), api.ErrDead)
		for _, form := range []string{"", "a", "d", "no"} {
			refuse(t, h.tree, to(form), api.ErrDead)
		}
		refuseView(t, h.tree, api.ErrDead)
		refuse(t, h.tree, []string{""}, api.ErrArg)
	}
}

// P14.1: of the root as of an empty vault.
func TestTheRoot(t *testing.T) {
	h := newHeld(t, 200, 40)
	wantInfo(t, h.tree, "", api.Info{Kind: api.Dir})
	wantList(t, h.tree, "")
	h.read()
	h.put("x")
	h.make()
	h.delete()
	h.props()
	h.walk(-1)
	for _, form := range []string{"", "a", "a/b"} {
		h.copy(nil, to(form), true)
		h.copy(to(form), nil, false)
		h.move(nil, to(form))
		h.move(to(form), nil)
	}
	h.look()
	h.setProp(element("x", "p", "1"))
	h.look()
	h.put("x", "a")
	for _, form := range []string{"", "a", "a/b", "b"} {
		h.copy(nil, to(form), true)
		h.copy(to(form), nil, false)
		h.move(nil, to(form))
		h.move(to(form), nil)
	}
	h.look()
	h.delete("a")
	h.dropProp(api.Prop{Space: "x", Name: "p"})
	h.look()
}

// P14.1: collections, files, and what isn't there: beside them, below them, and below files.
func TestLooking(t *testing.T) {
	h := filled(t)
	wantInfo(t, h.tree, "a", api.Info{Kind: api.File, Size: 1, Etag: 2})
	wantInfo(t, h.tree, "d", api.Info{Kind: api.Dir})
	wantBody(t, h.tree, "d/x", "z")
	for _, form := range []string{"", "a", "d", "d/x", "d/e", "d/y", "a/x", "d/x/x", "d/e/x", "A", "aa", "b", "no/x"} {
		h.stat(to(form)...)
		h.read(to(form)...)
		h.list(to(form)...)
		h.props(to(form)...)
		h.walk(-1, to(form)...)
	}
}

// P14.1: members are told in the order of their segments' bytes, whatever order they came in.
func TestOrder(t *testing.T) {
	h := newHeld(t, 400, 200)
	names := []string{"b", "a", "a!", "a0", "A", "\u00e9", "z", "\U0001F600", "\uffff", strings.Repeat("z", 64), "~", " ", "-", "a-b", "\x01", "\x7f"}
	for _, name := range names {
		h.put(name, name)
		h.make(name + "+")
		h.put("", name+"+", "k")
	}
	h.list()
	for _, depth := range []int{-1, 0, 1, 2} {
		h.walk(depth)
	}
	h.look()
	for _, name := range names[:8] {
		h.delete(name)
		h.move([]string{name + "+"}, []string{name})
	}
	h.list()
	h.look()
}

// P14.2: a body of 8192 bytes, and one more; whatever lies there.
func TestBodies(t *testing.T) {
	h := filled(t)
	for _, size := range []int{0, 1, 62, 63, 64, 511, 512, 513, 8191, 8192} {
		body := strings.Repeat("\xff\x00x", 2731)[:size]
		h.put(body, "a")
		wantBody(t, h.tree, "a", body)
		h.stat("a")
		h.put(body, "d", fmt.Sprint(size))
		h.look()
	}
	etags := h.w.etags
	for _, form := range []string{"a", "d", "", "new", "no/no", "a/x"} {
		_, err := h.tree.Put(to(form), strings.Repeat("x", 8193))
		wantErr(t, "Put of too much", err, api.ErrLong)
	}
	h.look()
	if h.w.etags != etags {
		t.Errorf("the words count refused calls")
	}
}

// P14.2: a body that comes again has a new etag, too.
func TestEtags(t *testing.T) {
	h := newHeld(t, 200, 40)
	for i := range 12 {
		h.put("same", "a")
		wantInfo(t, h.tree, "a", api.Info{Kind: api.File, Size: 4, Etag: int64(i + 1)})
	}
	h.make("a")
	h.make("d")
	h.put("x", "d")
	h.put("x", "no", "a")
	h.put("x", "a", "b")
	wantInfo(t, h.tree, "d", api.Info{Kind: api.Dir})
	h.put("x", "d", "a")
	wantInfo(t, h.tree, "d/a", api.Info{Kind: api.File, Size: 1, Etag: 13})
	h.delete("d")
	h.put("x", "d")
	wantInfo(t, h.tree, "d", api.Info{Kind: api.File, Size: 1, Etag: 14})
	h.look()
}

// P14.2, P14.4: collections with 199, 200 and no more members.
func TestFull(t *testing.T) {
	for _, form := range []string{"", "d"} {
		h := newHeld(t, 3000, 600)
		h.make("d")
		h.make("e")
		h.put("x", "e", "f")
		at := func(name string) []string { return append(to(form), name) }
		for i := len(h.w.members(to(form))); i < 199; i++ {
			h.put("x", at(fmt.Sprintf("m%03d", i))...)
		}
		h.look()
		h.commit()
		for _, last := range []func(){
			func() { h.put("x", at("last")...) },
			func() { h.make(at("last")...) },
			func() { h.copy(to("e/f"), at("last"), true) },
			func() { h.copy(to("e"), at("last"), false) },
			func() { h.move(to("e/f"), at("last")) },
		} {
			last()
			wantInfo(t, h.tree, joined(at("m100")), api.Info{Kind: api.File, Size: 1, Etag: h.etag(at("m100"))})
			if len(h.w.members(to(form))) != 200 {
				t.Errorf("%d members", len(h.w.members(to(form))))
			}
			h.put("x", at("more")...)
			h.make(at("more")...)
			h.copy(to("e"), at("more"), true)
			h.copy(at("m100"), at("more"), false)
			h.move(at("m100"), at("more"))
			h.move(to("e/f"), at("more"))
			h.make(at("last")...)
			h.put("over", at("m100")...)
			h.look()
			h.move(at("m100"), to("e/m"))
			h.put("x", at("more")...)
			h.look()
			h.delete(at("m101")...)
			h.make(at("m101")...)
			h.make(at("m102")...)
			h.list(to(form)...)
			h.look()
			h.abort()
		}
	}
}

func (h *held) etag(path []string) int64 {
	x, _ := h.w.at(path)
	return x.etag
}

// P14.3: what stands below goes, too, and nothing else; and nothing of it is left.
func TestDelete(t *testing.T) {
	h := newHeld(t, 400, 100)
	h.put("x", "d!")
	h.put("x", "dd")
	h.make("d0")
	before := pairsOf(t, h.x)
	h.make("d")
	h.put(strings.Repeat("b", 3000), "d", "x")
	h.make("d", "d")
	h.make("d", "d", "d")
	h.put("", "d", "d", "d", "y")
	h.setProp(element("x", "p", "1"), "d")
	h.setProp(element("", "p", "1"), "d", "d")
	h.setProp(element("x", "p", "1"), "d", "d", "d", "y")
	h.setProp(element("x", "q", "1"), "d", "d", "d", "y")
	h.delete("d", "no")
	h.delete("d", "x", "no")
	h.look()
	h.delete("d", "d", "d")
	h.look()
	h.delete("d")
	h.look()
	h.delete("d")
	for key, value := range pairsOf(t, h.x) {
		if was, there := before[key]; !there || was != value && key != numbersKey {
			t.Errorf("left: %q with %q, which was %q", key, value, was)
		}
	}
	h.make("d")
	h.list("d")
	h.props("d")
	h.delete("d0")
	h.delete("dd")
	h.look()
}

// pairsOf are all pairs of the vault.
func pairsOf(t *testing.T, x *vault.Tx) map[string]string {
	t.Helper()
	pairs, err := x.Scan("", math.MaxInt)
	wantErr(t, "Scan", err, api.OK)
	all := map[string]string{}
	for _, pair := range pairs {
		all[pair.Key] = pair.Value
	}
	return all
}

// P14.4: files, collections, deep and not, with properties; files have new etags, in the walk's order.
func TestCopy(t *testing.T) {
	h := filled(t)
	h.make("d", "b")
	h.put("1", "d", "b", "z")
	h.put("2", "d", "b!")
	h.put("3", "d", "z")
	etags := h.w.etags
	h.copy(to("d"), to("t"), true)
	for i, form := range []string{"t/b/z", "t/b!", "t/x", "t/z"} {
		wantInfo(t, h.tree, form, api.Info{Kind: api.File, Size: 1, Etag: etags + int64(i) + 1})
	}
	h.look()
	for i, from := range []string{"a", "d", "d/x", "d/e", "t"} {
		for _, deep := range []bool{false, true} {
			h.copy(to(from), to(fmt.Sprintf("to%d%t", i, deep)), deep)
			h.copy(to(from), to(fmt.Sprintf("d/e/to%d%t", i, deep)), deep)
			h.look()
		}
	}
	h.commit()
	h.look()
}

// P14.4: each error, ahead of those that are told behind it, of Copy and of Move; and nothing has changed.
func TestErrorsOfWays(t *testing.T) {
	h := filled(t)
	h.make("full")
	for i := range 200 {
		h.make("full", fmt.Sprint(i))
	}
	h.make("f")
	for _, c := range []struct {
		from, to string
		copy     api.Errno
		move     api.Errno
	}{
		{"no", "", api.ErrNone, api.ErrNone},
		{"no", "no", api.ErrNone, api.ErrNone},
		{"no", "a", api.ErrNone, api.ErrNone},
		{"a/x", "a", api.ErrNone, api.ErrNone},
		{"no", "full/no", api.ErrNone, api.ErrNone},
		{"", "", api.ErrSelf, api.ErrKind},
		{"", "a", api.ErrSelf, api.ErrKind},
		{"", "new", api.ErrSelf, api.ErrKind},
		{"", "no/no", api.ErrSelf, api.ErrKind},
		{"a", "", api.ErrSelf, api.ErrSelf},
		{"a", "a", api.ErrSelf, api.ErrSelf},
		{"d", "d/x", api.ErrSelf, api.ErrSelf},
		{"d", "d/new", api.ErrSelf, api.ErrSelf},
		{"d", "d/no/no", api.ErrSelf, api.ErrSelf},
		{"d/x", "d", api.ErrSelf, api.ErrSelf},
		{"a", "a/x", api.ErrSelf, api.ErrSelf},
		{"full", "full/x", api.ErrSelf, api.ErrSelf},
		{"a", "d", api.ErrThere, api.ErrThere},
		{"d", "a", api.ErrThere, api.ErrThere},
		{"a", "full/7", api.ErrThere, api.ErrThere},
		{"a", "no/x", api.ErrParent, api.ErrParent},
		{"a", "d/x/x", api.ErrParent, api.ErrParent},
		{"d", "a/x", api.ErrParent, api.ErrParent},
		{"d", "no/1/2/3/4/5/6/7/8/9/10/11", api.ErrParent, api.ErrParent},
		{"a", "full/new", api.ErrFull, api.ErrFull},
		{"full/7", "full/new", api.ErrFull, api.ErrFull},
	} {
		for _, deep := range []bool{false, true} {
			wantErr(t, fmt.Sprintf("Copy(%q, %q, %t)", c.from, c.to, deep), h.tree.Copy(to(c.from), to(c.to), deep), c.copy)
		}
		wantErr(t, fmt.Sprintf("Move(%q, %q)", c.from, c.to), h.tree.Move(to(c.from), to(c.to)), c.move)
	}
	h.look()
	h.move(to("f"), to("full0"))
	h.move(to("full"), to("f"))
	h.copy(to("f"), to("full0/f"), true)
	h.look()
}

// P14.4: no path of more than 12 segments comes into being; ErrFull comes ahead of that.
func TestLong(t *testing.T) {
	h := newHeld(t, 1500, 600)
	var deep []string
	for i := range 11 {
		deep = append(deep, fmt.Sprint(i))
		h.make(deep...)
	}
	h.put("x", append(deep, "last")...)
	h.make("a")
	h.make("a", "b")
	h.put("x", "a", "b", "f")
	h.put("x", "a", "f")
	h.make("s")
	for n := range 11 {
		for _, from := range []string{"a", "a/b", "a/f", "s"} {
			at := append(slices.Clone(deep[:n+1]), "new")
			h.copy(to(from), at, false)
			h.delete(at...)
			h.copy(to(from), at, true)
			h.look()
			if len(h.w.walk(at, -1)) > 0 {
				h.delete(at...)
			}
			h.move(to(from), at)
			h.look()
			h.move(at, to(from))
		}
	}
	for i := range 199 {
		h.make(append(slices.Clone(deep[:10]), fmt.Sprint("m", i))...)
	}
	wantErr(t, "Copy", h.tree.Copy(to("a"), append(slices.Clone(deep[:10]), "new"), true), api.ErrFull)
	wantErr(t, "Move", h.tree.Move(to("a"), append(slices.Clone(deep[:10]), "new")), api.ErrFull)
	h.copy(to("0"), to("t"), true)
	h.move(to("0"), to("u"))
	h.move(to("t"), to("s/t"))
	h.look()
}

// P14.4, P14.7: what moves is what it was, and there and back again it is all as it was, pair by pair.
func TestMove(t *testing.T) {
	h := filled(t)
	h.make("d", "e", "f")
	h.put("deep", "d", "e", "f", "g")
	h.setProp(element("y", "p", "5"), "d", "e", "f", "g")
	before := pairsOf(t, h.x)
	for _, way := range [][2]string{{"d", "t"}, {"a", "b"}, {"d/x", "d/y"}, {"d/e", "e"}, {"d/e/f", "d/f"}, {"a", "d/e/f/a"}, {"d/e/f/g", "g"}} {
		h.move(to(way[0]), to(way[1]))
		h.look()
		h.move(to(way[0]), to(way[1]))
		h.move(to(way[1]), to(way[0]))
		h.look()
		if after := pairsOf(t, h.x); fmt.Sprint(after) != fmt.Sprint(before) {
			t.Errorf("there and back: %q", way)
		}
	}
	h.move(to("d"), to("t"))
	h.make("d")
	h.move(to("t"), to("d/t"))
	h.put("new", "d", "x")
	h.look()
	h.commit()
	h.look()
}

// P14.7: neither what is copied nor what it was copied from changes with the other.
func TestCopiesAreApart(t *testing.T) {
	h := filled(t)
	h.copy(to("d"), to("t"), true)
	h.commit()
	for _, change := range []func(at string){
		func(at string) { h.put("changed", at, "x") },
		func(at string) { h.delete(at, "x") },
		func(at string) { h.setProp(element("x", "p", "9"), at) },
		func(at string) { h.dropProp(api.Prop{Space: "x", Name: "p"}, at, "x") },
		func(at string) { h.put("new", at, "e", "new") },
		func(at string) { h.move(to(at+"/e"), to("e")) },
		func(at string) { h.delete(at) },
	} {
		for _, at := range []string{"d", "t"} {
			change(at)
			h.look()
			h.abort()
		}
	}
}

// P14.7: of several copies each goes its own way, in whatever order they do.
func TestManyCopies(t *testing.T) {
	for turn := range 4 {
		h := filled(t)
		all := []string{"d", "d1", "d2", "d3"}
		for _, at := range all[1:] {
			h.copy(to("d"), to(at), true)
			h.look()
		}
		h.commit()
		for i := range all {
			at := all[(i+turn)%4]
			h.put("of "+at, at, "x")
			h.setProp(element("x", "p", "of "+at), at, "x")
			h.look()
			h.dropProp(api.Prop{Space: "x", Name: "p"}, at)
			h.look()
		}
		h.abort()
		for i := range all {
			h.delete(all[(i+turn)%4])
			h.look()
		}
	}
}

// P14.5: properties are told in the order of their Spaces, then of their Names; a value takes another's place.
func TestProps(t *testing.T) {
	h := filled(t)
	names := []api.Prop{
		{Space: "", Name: "b"}, {Space: "", Name: "a"}, {Space: "a", Name: "bc"}, {Space: "ab", Name: "c"}, {Space: "ab", Name: "a"},
		{Space: "\t", Name: "z"}, {Space: "DAV:", Name: "getetag"}, {Space: "\u00e9", Name: "\u00e9"}, {Space: "a", Name: "bcd"},
		{Space: strings.Repeat("s", 60), Name: strings.Repeat("n", 60)}, {Space: strings.Repeat("s", 59), Name: "z"}, {Space: "a", Name: "b"},
	}
	for _, form := range []string{"", "a", "d", "d/x"} {
		for i, p := range names {
			h.setProp(element(p.Space, p.Name, fmt.Sprint(i)), to(form)...)
			h.props(to(form)...)
		}
		for i, p := range names {
			h.setProp(api.Node{Space: p.Space, Name: p.Name, Attrs: []api.Attr{{Name: "i", Value: fmt.Sprint(i)}}}, to(form)...)
			h.props(to(form)...)
		}
	}
	h.look()
	h.put("again", "a")
	h.look()
	for i, form := range []string{"", "a", "d", "d/x"} {
		for j, p := range names {
			if (i+j)%2 == 0 {
				h.dropProp(p, to(form)...)
				h.dropProp(p, to(form)...)
				h.props(to(form)...)
			}
		}
	}
	h.look()
}

// P14.5: what is no good tree is refused, and what is none to be kept: a form of more than 4096 bytes.
func TestSetPropRefuses(t *testing.T) {
	h := filled(t)
	deep := element("x", "p", "")
	for range 15 {
		deep = api.Node{Space: "x", Name: "p", Kids: []api.Node{deep}}
	}
	many := api.Node{Space: "x", Name: "p", Kids: slices.Repeat([]api.Node{{Space: "x", Name: "k"}}, 4095)}
	for _, c := range []struct {
		value api.Node
		want  api.Errno
	}{
		{api.Node{}, api.ErrArg},
		{api.Node{Text: "t"}, api.ErrArg},
		{api.Node{Name: "a", Text: "t"}, api.ErrArg},
		{api.Node{Name: "a:b"}, api.ErrArg},
		{api.Node{Name: "a", Space: "\x00"}, api.ErrArg},
		{api.Node{Name: "a", Kids: []api.Node{{}}}, api.ErrArg},
		{element("x", strings.Repeat("n", 61), ""), api.ErrArg},
		{element(strings.Repeat("s", 61), "n", ""), api.ErrArg},
		{element("x", "p", strings.Repeat("x", 5000)+"\x00"), api.ErrArg},
		{api.Node{Name: "p", Kids: []api.Node{deep}}, api.ErrArg},
		{api.Node{Name: "p", Kids: append(many.Kids, many.Kids[0])}, api.ErrArg},
		{many, api.ErrLong},
		{element("x", "p", strings.Repeat("x", 70000)), api.ErrLong},
		{element("x", "p", strings.Repeat("&", 14000)), api.ErrLong},
		{sized("x", "p", 4097), api.ErrLong},
		{sized("x", "q", 4097), api.ErrLong},
		{sized("x", "p", 4096), api.OK},
		{sized(strings.Repeat("s", 60), strings.Repeat("n", 60), 4096), api.OK},
		{sized(strings.Repeat("s", 60), strings.Repeat("n", 60), 4097), api.ErrLong},
		{deep, api.OK},
	} {
		wantErr(t, "SetProp of what isn't there", h.tree.SetProp(to("no"), c.value), api.ErrNone)
		wantErr(t, fmt.Sprintf("SetProp of %.60q", c.value.Name), h.tree.SetProp(to("a"), c.value), c.want)
		h.w.setProp(to("a"), c.value)
		h.props("a")
	}
	h.look()
}

// P14.5: a resource has 16 properties, and no more; others of it don't count when one takes their place.
func TestManyProps(t *testing.T) {
	h := filled(t)
	for _, form := range []string{"", "a", "d/e"} {
		h.setProp(element("x", "p", "1"), to(form)...)
		for i := range 20 {
			h.setProp(element("y", fmt.Sprint("p", i), "1"), to(form)...)
		}
		h.props(to(form)...)
		if props, _ := h.tree.Props(to(form)); len(props) != 16 {
			t.Errorf("%d properties", len(props))
		}
		wantErr(t, "SetProp", h.tree.SetProp(to(form), element("z", "p", "")), api.ErrFull)
		wantErr(t, "SetProp of too much", h.tree.SetProp(to(form), sized("z", "p", 4097)), api.ErrLong)
		wantErr(t, "SetProp of none", h.tree.SetProp(to(form), api.Node{}), api.ErrArg)
		h.setProp(element("y", "p3", "2"), to(form)...)
		h.dropProp(api.Prop{Space: "y", Name: "p4"}, to(form)...)
		h.setProp(element("z", "p", "2"), to(form)...)
		h.setProp(element("z", "q", "2"), to(form)...)
		h.props(to(form)...)
	}
	h.copy(to("a"), to("b"), true)
	h.setProp(element("z", "r", "2"), "b")
	h.look()
}

// P14.5: names of any sort may be dropped; no other property goes with them.
func TestDropProp(t *testing.T) {
	h := filled(t)
	for _, p := range []api.Prop{{Space: "a", Name: "b"}, {Space: "", Name: "ab"}, {Space: "ab", Name: "c"}, {Space: strings.Repeat("s", 60), Name: strings.Repeat("n", 60)}} {
		h.setProp(element(p.Space, p.Name, "1"), "a")
		h.setProp(element(p.Space, p.Name, "1"), "d")
	}
	long := strings.Repeat("n", 61)
	for _, p := range []api.Prop{
		{}, {Name: "a"}, {Space: "a"}, {Space: "a\x00b"}, {Name: "\x00"}, {Space: "a", Name: "\x00b"}, {Space: "a\x00", Name: "b"}, {Name: "a\x00b"},
		{Space: long, Name: "n"}, {Space: "s", Name: long}, {Space: long, Name: long}, {Space: strings.Repeat("s", 60), Name: long},
		{Space: strings.Repeat("s", 61), Name: strings.Repeat("n", 59)}, {Space: strings.Repeat("s", 1000), Name: "n"}, {Space: "x", Name: "q"}, {Space: "X", Name: "p"}, {Space: "\xff", Name: "\xff"},
	} {
		for _, form := range []string{"a", "d", "", "no"} {
			h.dropProp(p, to(form)...)
		}
	}
	h.look()
	h.dropProp(api.Prop{Space: "a", Name: "b"}, "a")
	h.look()
	h.dropProp(api.Prop{Space: strings.Repeat("s", 60), Name: strings.Repeat("n", 60)}, "d")
	h.look()
}

// P14.6: walks of all depths, from each resource on.
func TestWalk(t *testing.T) {
	h := filled(t)
	at := to("d/e")
	for i := range 10 {
		at = append(at, fmt.Sprint(i))
		h.make(at...)
		if len(at) < 12 {
			h.put("x", append(at, "f")...)
		}
	}
	for n := range 13 {
		for _, depth := range []int{math.MinInt, -13, -2, -1, 0, 1, 2, 3, 9, 10, 11, 12, 13, 14, math.MaxInt} {
			h.walk(depth, at[:n]...)
		}
	}
	h.walk(0, "a")
	h.walk(-1, "a")
	h.walk(1, "no")
	h.walk(-1, "a", "no")
}

// P14.1 to P14.6: a call that looks, and one that is refused, leave nothing to commit.
func TestNothingToCommit(t *testing.T) {
	h := filled(t)
	h.commit()
	done := h.v.Done()
	for _, form := range []string{"", "a", "d", "no"} {
		h.stat(to(form)...)
		h.read(to(form)...)
		h.list(to(form)...)
		h.props(to(form)...)
		h.walk(-1, to(form)...)
	}
	h.look()
	h.put(strings.Repeat("x", 8193), "a")
	h.put("x", "d")
	h.put("x", "no", "no")
	h.make("a")
	h.make("no", "no")
	h.delete("no")
	h.delete()
	h.copy(to("a"), to("d"), true)
	h.copy(to("a"), to("no/no"), true)
	h.move(to("d"), to("d/no"))
	h.move(to("d"), to("no/no"))
	h.setProp(api.Node{}, "a")
	h.setProp(sized("x", "p", 4097), "a")
	h.setProp(element("x", "p", "1"), "a") // as it is
	h.dropProp(api.Prop{Space: "x", Name: "no"}, "a")
	for i := range 16 {
		h.setProp(element("y", fmt.Sprint("p", i), ""), "no")
	}
	h.commit()
	if h.v.Done() != done {
		t.Errorf("Done was %d, and is %d", done, h.v.Done())
	}
}

// P1 (rule 6): two trees on one transaction are one tree; what was aborted is seen by none.
func TestTreesOfOneTransaction(t *testing.T) {
	h := filled(t)
	h.commit()
	first, second := h.tree, On(h.x)
	for i := range 20 {
		h.tree = []*Tree{first, second}[i%2]
		h.put("x", "d", fmt.Sprint(i))
		h.setProp(element("y", fmt.Sprint("p", i), ""), "d")
		h.make(fmt.Sprint(i))
		h.copy(to("a"), to("d/e/"+fmt.Sprint(i)), true)
		h.delete("d", fmt.Sprint(i-3))
	}
	for _, h.tree = range []*Tree{first, second} {
		h.look()
	}
	h.abort()
	h.look()
	h.put("x", "d", "0")
	h.look()
}

// A vault holds others' pairs, too: they are none of the tree's, and stay what they are.
func TestOthersPairs(t *testing.T) {
	h := newHeld(t, 600, 200)
	keys := []string{"\x00", "a", "l", "locks", "s", "u", "u\x00", "\xff\xff", strings.Repeat("\xff", 128)}
	for _, key := range keys {
		wantErr(t, "Put", h.x.Put(key, "mine "+key), api.OK)
	}
	look := func() {
		t.Helper()
		all, etags, err := h.tree.View()
		if err != api.OK || etags != h.w.etags || !sameResources(all, h.w.view()) {
			t.Errorf("View = %s, %d, error %d", show(all), etags, err)
		}
		for _, key := range keys {
			if value, there, err := h.x.Get(key); value != "mine "+key || !there || err != api.OK {
				t.Errorf("Get(%q) = %q, %t, error %d", key, value, there, err)
			}
		}
	}
	look()
	h.make("d")
	h.make("d", "e")
	h.put("x", "d", "f")
	h.setProp(element("x", "p", ""), "d")
	h.copy(to("d"), to("e"), true)
	h.list("d", "e")
	h.walk(-1, "d", "f")
	look()
	h.delete("d")
	h.move(to("e"), to("f"))
	h.delete("f")
	look()
}

// P14.8: not told of any vault: where the room ends the vault's error is told, and what was committed is there.
func TestSmallVaults(t *testing.T) {
	for sectors := 20; sectors <= 60; sectors += 8 {
		d := disk.New(sectors)
		v, err := vault.Make(d, 8)
		wantErr(t, "Make of a vault", err, api.OK)
		done, last := "", api.OK
		for i := 0; last == api.OK; i++ {
			x, err := v.Begin()
			wantErr(t, "Begin", err, api.OK)
			name := fmt.Sprintf("%02d", i)
			if _, last = On(x).Put([]string{name}, strings.Repeat(name, 100)); last == api.OK {
				if _, last = x.Commit(); last == api.OK {
					done += name
				}
			}
			x.Abort()
		}
		if last != api.ErrSpace && last != api.ErrLog {
			t.Errorf("%d sectors: error %d", sectors, last)
		}
		x, err := v.Begin()
		wantErr(t, "Begin", err, api.OK)
		names, err := On(x).List(nil)
		if strings.Join(names, "") != done || done == "" || err != api.OK {
			t.Errorf("%d sectors: List = %q, error %d, want %q", sectors, names, err, done)
		}
		x.Abort()
		wantErr(t, "Check", v.Check(), api.OK)
	}
}
