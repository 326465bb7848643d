package ask

import (
	"slices"
	"strings"
	"sync"
	"testing"
	"unsafe"

	"docket/api"
)

// part is some memory: where it begins, and where it ends.
type part struct {
	from, to uintptr
}

func partOf(s string) part {
	from := uintptr(unsafe.Pointer(unsafe.StringData(s)))
	return part{from, from + uintptr(len(s))}
}

// room is the memory of a list, its spare room included.
func room[T any](list []T) part {
	from := uintptr(unsafe.Pointer(unsafe.SliceData(list)))
	return part{from, from + uintptr(cap(list))*unsafe.Sizeof(*new(T))}
}

func (p part) meets(q part) bool {
	return p.from < q.to && q.from < p.to
}

// apart wants no part of one list to meet one of the other.
func apart(t *testing.T, a, b []part) {
	t.Helper()
	for _, p := range a {
		if slices.ContainsFunc(b, p.meets) {
			t.Errorf("memory is shared: %v", p)
		}
	}
}

// listsOf and textsOf tell the memory of all lists and of all texts of a tree.
func listsOf(n api.Node) []part {
	all := []part{room(n.Attrs), room(n.Kids)}
	for _, kid := range n.Kids {
		all = append(all, listsOf(kid)...)
	}
	return all
}

func textsOf(n api.Node) []part {
	all := []part{partOf(n.Text), partOf(n.Space), partOf(n.Name)}
	for _, a := range n.Attrs {
		all = append(all, partOf(a.Name), partOf(a.Value))
	}
	for _, kid := range n.Kids {
		all = append(all, textsOf(kid)...)
	}
	return all
}

// P1 (rule 5): the names that are told are new memory.
func TestFindMemory(t *testing.T) {
	buf := strings.Clone(body("propfind", `<D:prop><x:aaaa/><bbbb xmlns="yyyy"/><x:cccc/></D:prop>`))
	partsOf := func(f api.Find) []part {
		all := []part{room(f.Names)}
		for _, p := range f.Names {
			all = append(all, partOf(p.Space), partOf(p.Name))
		}
		return all
	}
	first, _ := Find(buf)
	second, _ := Find(buf)
	apart(t, partsOf(first), append(partsOf(second), partOf(buf)))
	first.Names = append(first.Names[:0], slices.Repeat([]api.Prop{{Name: "changed"}}, cap(first.Names))...)
	if len(second.Names) != 3 || second.Names[0].Name != "aaaa" {
		t.Errorf("behind a change of the first answer the second is %v", second)
	}
	wantFind(t, buf, api.FindSome, second.Names...)
}

// P1 (rule 5): the changes that are told are new memory, and no two of their lists share any.
func TestChangesMemory(t *testing.T) {
	buf := strings.Clone(body("propertyupdate", `<D:set><D:prop><x:a xx="11" yy="22"><b>tt</b><x:c zz="33"/></x:a><x:d><e/><e/></x:d></D:prop></D:set><D:remove><D:prop><x:a><b/></x:a></D:prop></D:remove>`))
	first, _ := Changes(buf)
	second, err := Changes(buf)
	if len(first) != 3 || err != api.OK {
		t.Fatalf("Changes tells %s, %v", show(first), err)
	}
	var lists []part
	for _, all := range [][]api.Change{first, second} {
		lists = append(lists, room(all))
		for _, c := range all {
			lists = append(lists, listsOf(c.Value)...)
			apart(t, textsOf(c.Value), []part{partOf(buf)})
		}
	}
	for i, p := range lists {
		apart(t, []part{p}, slices.Delete(slices.Clone(lists), i, i+1))
	}
	for _, c := range first {
		for _, other := range second {
			apart(t, textsOf(c.Value), textsOf(other.Value))
		}
	}
	first[0].Value.Kids[0].Name, first[0].Value.Attrs[0].Value, first[1] = "changed", "changed", api.Change{}
	wantChanges(t, buf, second...)
}

// P1 (rule 5): an owner is new memory.
func TestLockMemory(t *testing.T) {
	buf := strings.Clone(body("lockinfo", exclusive+writes+`<owner xmlns="DAV:">tttt</owner>`))
	first, _ := Lock(buf)
	second, err := Lock(buf)
	if !strings.Contains(buf, first.Owner) || first != second || err != api.OK {
		t.Errorf("Lock tells %+v, %+v, %v", first, second, err)
	}
	apart(t, []part{partOf(first.Owner)}, []part{partOf(second.Owner), partOf(buf)})
}

// P1 (rule 6): calls at one time know nothing of each other.
func TestAtOneTime(t *testing.T) {
	var all sync.WaitGroup
	for i := range 16 {
		all.Go(func() {
			owner := strings.Repeat("t", i)
			for range 50 {
				hold(t, body("propfind", "<D:prop>"+many(2*i+2)+"</D:prop>"))
				hold(t, body("propertyupdate", "<D:set><D:prop>"+many(2*i+3)+"</D:prop></D:set>"))
				wantLock(t, body("lockinfo", exclusive+writes+"<D:owner>x"+owner+"</D:owner>"), true, `<owner xmlns="DAV:">x`+owner+"</owner>")
			}
		})
	}
	all.Wait()
}
