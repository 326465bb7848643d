package tree

import (
	"slices"
	"strings"
	"testing"
	"unsafe"

	"docket/api"
)

// part is some memory: where it begins, and where it ends.
type part struct {
	from, to uintptr
}

func partOf(s string) part {
	from := uintptr(unsafe.Pointer(unsafe.StringData(s)))
	return part{from, from + uintptr(len(s))}
}

// room is the memory of a list, its spare room included.
func room[T any](list []T) part {
	from := uintptr(unsafe.Pointer(unsafe.SliceData(list)))
	return part{from, from + uintptr(cap(list))*unsafe.Sizeof(*new(T))}
}

func (p part) meets(q part) bool {
	return p.from < q.to && q.from < p.to
}

// apart wants no two of these parts to meet.
func apart(t *testing.T, what string, all []part) {
	t.Helper()
	for i, p := range all {
		if slices.ContainsFunc(all[i+1:], p.meets) {
			t.Errorf("%s: memory is shared: %v", what, p)
		}
	}
}

func textParts(all []string) []part {
	parts := []part{room(all)}
	for _, s := range all {
		parts = append(parts, partOf(s))
	}
	return parts
}

// nodeParts are the lists and texts of a tree of nodes. Its elements may have one text for the Space of all.
func nodeParts(n api.Node) []part {
	all := []part{room(n.Attrs), room(n.Kids), partOf(n.Text), partOf(n.Space), partOf(n.Name)}
	for _, a := range n.Attrs {
		all = append(all, partOf(a.Name), partOf(a.Value))
	}
	for _, kid := range n.Kids {
		for _, p := range nodeParts(kid) {
			if p != partOf(n.Space) {
				all = append(all, p)
			}
		}
	}
	return all
}

// spare is a path with room behind it, and memory of its own for each segment.
func spare(form string) []string {
	list := make([]string, 0, 20)
	for _, segment := range to(form) {
		list = append(list, strings.Clone(segment))
	}
	return list
}

// busy is a tree whose answers have many lists and texts.
func busy(t *testing.T) *held {
	h := newHeld(t, 400, 100)
	h.make("dd")
	for _, name := range []string{"aa", "bb", strings.Repeat("c", 64)} {
		h.make("dd", name)
		h.put("body of "+name, "dd", name, "ff")
		h.put(strings.Repeat("long", 100), "dd", name, "gg")
	}
	value := api.Node{Space: "ss", Name: "pp", Attrs: []api.Attr{{Name: "xx", Value: "yy"}}, Kids: []api.Node{{Text: "tt"}, {Space: "ss", Name: "kk"}}}
	for _, name := range []string{"pp", "qq"} {
		value.Name = name
		h.setProp(value, "dd")
		h.setProp(value, "dd", "aa")
	}
	return h
}

// P1 (rule 5): no answer shares memory with another one, with what was handed in, or within itself.
func TestMemory(t *testing.T) {
	h := busy(t)
	h.commit()
	path := spare("dd")
	file := spare("dd/aa/ff")
	handed := append(textParts(path), textParts(file)...)
	names, bodies, walks, props := slices.Clone(handed), slices.Clone(handed), slices.Clone(handed), []part(nil)
	var views []part
	for range 2 {
		list, err := h.tree.List(path)
		wantErr(t, "List", err, api.OK)
		names = append(names, textParts(list)...)
		for _, f := range [][]string{file, to("dd/aa/gg")} {
			body, err := h.tree.Read(f)
			wantErr(t, "Read", err, api.OK)
			bodies = append(bodies, partOf(body))
		}
		paths, err := h.tree.Walk(path, -1)
		wantErr(t, "Walk", err, api.OK)
		walks = append(walks, room(paths))
		for _, p := range paths {
			walks = append(walks, textParts(p)...)
		}
		nodes, err := h.tree.Props(path)
		wantErr(t, "Props", err, api.OK)
		props = append(props, room(nodes))
		for _, n := range nodes {
			props = append(props, nodeParts(n)...)
		}
		all, _, err := h.tree.View()
		wantErr(t, "View", err, api.OK)
		views = append(views, room(all))
		for _, r := range all {
			views = append(append(views, textParts(r.Path)...), partOf(r.Body), room(r.Props))
			for _, n := range r.Props {
				views = append(views, nodeParts(n)...)
			}
		}
	}
	for what, all := range map[string][]part{"List": names, "Read": bodies, "Walk": walks, "Props": props, "View": views} {
		apart(t, what, all)
	}
}

// P1 (rule 5): what is handed in is not changed, its spare room included, whatever is done with it.
func TestHandedInStays(t *testing.T) {
	h := busy(t)
	value := api.Node{Space: "x", Name: "p", Kids: append(make([]api.Node, 0, 9), api.Node{Text: "t"}), Attrs: append(make([]api.Attr, 0, 9), api.Attr{Name: "a", Value: "b"})}
	for _, forms := range [][2]string{{"dd", "new"}, {"dd/aa", "dd/new"}, {"dd/aa/ff", "new"}, {"new", "dd"}, {"", "new"}} {
		from, into := spare(forms[0]), spare(forms[1])
		for _, c := range calls() {
			c.do(h.tree, from)
			h.tree.Copy(from, into, true)
			h.tree.SetProp(into, value)
			h.tree.Move(into, from)
			h.tree.Move(from, into)
			h.tree.Walk(into, 3)
			if !slices.Equal(from, to(forms[0])) || !slices.Equal(into, to(forms[1])) {
				t.Errorf("%s: the paths are %q and %q, and were %q", c.what, from, into, forms)
			}
			for _, path := range [][]string{from, into} {
				if slices.ContainsFunc(path[len(path):cap(path)], func(s string) bool { return s != "" }) {
					t.Errorf("%s: the spare room is %q", c.what, path[len(path):cap(path)])
				}
			}
		}
	}
	if value.Kids[0].Text != "t" || value.Kids[:9][1].Name != "" || value.Attrs[0].Name != "a" || value.Attrs[:9][1].Name != "" {
		t.Errorf("the value has changed: %+v", value)
	}
}

// P1 (rule 5): nothing that was handed in or answered is kept: who changes it later changes nothing of the tree.
func TestNothingIsKept(t *testing.T) {
	h := busy(t)
	path := spare("dd/new")
	_, err := h.tree.Put(path, "x")
	wantErr(t, "Put", err, api.OK)
	path[1] = "other"
	value := element("x", "p", "t")
	wantErr(t, "SetProp", h.tree.SetProp(to("dd/new"), value), api.OK)
	value.Kids[0].Text = "changed"
	h.w.put(to("dd/new"), "x")
	h.w.setProp(to("dd/new"), element("x", "p", "t"))
	h.look()
	names, _ := h.tree.List(to("dd"))
	paths, _ := h.tree.Walk(nil, -1)
	props, _ := h.tree.Props(to("dd"))
	all, _, _ := h.tree.View()
	names[0], paths[1][0], props[0].Kids[0].Text, all[1].Path[0], all[1].Props[0].Name = "!", "!", "!", "!", "!"
	h.look()
	h.list("dd")
	h.walk(-1)
	h.props("dd")
}
