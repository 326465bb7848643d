package xml

import (
	"strings"
	"sync"
	"testing"
	"unsafe"

	"docket/api"
)

// part is some memory: where it begins, and where it ends.
type part struct {
	from, to uintptr
}

func partOf(s string) part {
	from := uintptr(unsafe.Pointer(unsafe.StringData(s)))
	return part{from, from + uintptr(len(s))}
}

// room is the memory of a list, its spare room included.
func room[T any](list []T) part {
	from := uintptr(unsafe.Pointer(unsafe.SliceData(list)))
	return part{from, from + uintptr(cap(list))*unsafe.Sizeof(*new(T))}
}

func (p part) meets(q part) bool {
	return p.from < q.to && q.from < p.to
}

// textsOf tells all texts of a tree, and listsOf the memory of all its lists.
func textsOf(n api.Node) []string {
	all := []string{n.Text, n.Space, n.Name}
	for _, a := range n.Attrs {
		all = append(all, a.Name, a.Value)
	}
	for _, kid := range n.Kids {
		all = append(all, textsOf(kid)...)
	}
	return all
}

func listsOf(n api.Node) []part {
	all := []part{room(n.Attrs), room(n.Kids)}
	for _, kid := range n.Kids {
		all = append(all, listsOf(kid)...)
	}
	return all
}

const ofEach = `<p:aa xmlns:p="uu" xx="11" yy=""><bb xmlns="vv" xmlns:q="ww" zz='22'/>tt&lt;<cc xx="1&#32;"><dd/><dd/></cc><![CDATA[cd]]><ee/>t</p:aa>`

// P1 (rule 5): what Parse answers is new memory, and no two of its lists share any.
func TestParsesNewMemory(t *testing.T) {
	s := strings.Clone(ofEach)
	first, _ := Parse(s)
	second, err := Parse(s)
	if err != api.OK {
		t.Fatalf("Parse: error %d", err)
	}
	for _, x := range textsOf(first) {
		if partOf(x).meets(partOf(s)) {
			t.Errorf("%q lies in the text", x)
		}
	}
	lists := append(listsOf(first), listsOf(second)...)
	for i, x := range lists {
		for j, y := range lists {
			if i != j && x.meets(y) {
				t.Errorf("the lists %d and %d share memory", i, j)
			}
		}
	}
	first.Attrs[0].Name, first.Kids[0].Attrs[0].Value, first.Kids[2].Kids[0] = "changed", "changed", api.Node{Text: "changed"}
	wantTree(t, s, second)
}

// P1 (rule 5): what is handed in stays as it is, its spare room included, and what Write answers shares no memory with it.
func TestTreesStay(t *testing.T) {
	n, _ := Parse(ofEach)
	n.Attrs, n.Kids[2].Kids = n.Attrs[:1], n.Kids[2].Kids[:1]
	was := show(n) + show(n.Kids[2].Kids[:2][1]) + n.Attrs[:2][1].Name
	for range 2 {
		form, err := Write(n)
		if !Good(n) || err != api.OK {
			t.Errorf("Good = %v, Write: error %d", Good(n), err)
		}
		for _, x := range textsOf(n) {
			if partOf(x).meets(partOf(form)) {
				t.Errorf("%q lies in the form", x)
			}
		}
	}
	if now := show(n) + show(n.Kids[2].Kids[:2][1]) + n.Attrs[:2][1].Name; now != was {
		t.Errorf("%s has changed to %s", was, now)
	}
}

// P1 (rule 6): nothing is kept from call to call, so calls at one time don't know of each other.
func TestAtOneTime(t *testing.T) {
	var all sync.WaitGroup
	for i := range 8 {
		all.Go(func() {
			space, value := strings.Repeat("u", 1+i), strings.Repeat("<", i)
			for range 200 {
				wantTree(t, `<p:a xmlns:p="`+space+`" x="`+strings.Repeat("&lt;", i)+`"/>`, el(space, "a", at("x", value)))
				refuse(t, api.ErrXML, "<p:a/>", "<a>"+value)
				refuseTree(t, "a name twice", el(space, "a", at("x", value), at("x", value)))
			}
		})
	}
	all.Wait()
}

// P1 (rule 1), P10.1: texts of much of one kind are done with soon.
func TestMuchOfOneKind(t *testing.T) {
	for _, s := range []string{
		"<a>", "<a ", "<a x='", "<!--", "<!-- ", "--", "<?x", "<?x ", "<![CDATA[", "]]>", "&", "&lt;", "&#", ";", "<", ">", "'", `"`, "=", " ", "\r\n", "</a>", "<a/>", "x='' ", "xmlns:p='u' ", "<p:a>", "<a xmlns:p='u'>", "😀", "&#9",
	} {
		many := strings.Repeat(s, (api.MaxText-20)/len(s))
		holdText(t, many)
		for _, around := range [][2]string{{"<a>", "</a>"}, {"<a x='", "'/>"}, {"<a ", "/>"}, {"<!--", "--><a/>"}, {"<?x", "?><a/>"}, {"<a><![CDATA[", "]]></a>"}, {"<a>&#", ";</a>"}, {"<a/>", ""}} {
			holdText(t, around[0]+many+around[1])
		}
	}
	var all strings.Builder
	for i := 0; all.Len() < 60000; i++ {
		all.WriteString(" x" + strings.Repeat("y", i%7) + string(rune('a'+i%26)) + string(rune(0x4000+i)) + "=''")
	}
	if n, err := Parse("<a" + all.String() + "/>"); err != api.OK || len(n.Attrs) < 4000 {
		t.Errorf("Parse: %d attributes, error %d", len(n.Attrs), err)
	}
	refuse(t, api.ErrXML, "<a"+all.String()+" xay='' xay=''/>")
}

// A fault of the package itself isn't told as one of the text.
func TestOwnFaults(t *testing.T) {
	defer func() {
		if with := recover(); with != "a fault" {
			t.Errorf("recovered %v", with)
		}
	}()
	err := attempt(func() { panic("a fault") })
	t.Errorf("attempt = %d", err)
}
