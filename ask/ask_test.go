package ask

import (
	"fmt"
	"reflect"
	"slices"
	"strconv"
	"strings"
	"testing"

	"docket/api"
	"docket/xml"
)

// body is an element of DAV: with something in it; D and x are prefixes in it, and elements without one have no namespace.
func body(name, in string) string {
	return `<D:` + name + ` xmlns:D="DAV:" xmlns:x="x" xmlns:y="y">` + in + `</D:` + name + `>`
}

// el is an element: of texts, and of elements.
func el(space, name string, in ...any) api.Node {
	n := api.Node{Space: space, Name: name}
	for _, x := range in {
		switch x := x.(type) {
		case api.Node:
			n.Kids = append(n.Kids, x)
		case string:
			n.Kids = append(n.Kids, api.Node{Text: x})
		}
	}
	return n
}

// names reads names: a namespace and a name, with a blank between; a namespace may have blanks, too.
func names(all ...string) []api.Prop {
	var props []api.Prop
	for _, s := range all {
		at := strings.LastIndex(s, " ")
		props = append(props, api.Prop{Space: s[:at], Name: s[at+1:]})
	}
	return props
}

func set(n api.Node) api.Change    { return api.Change{Value: n} }
func remove(n api.Node) api.Change { return api.Change{Remove: true, Value: n} }

// sameFind holds two Finds against each other; lists without anything are one and the same.
func sameFind(a, b api.Find) bool {
	return a.Kind == b.Kind && slices.Equal(a.Names, b.Names)
}

// show tells changes as a text: two lists are the same if and only if their texts are.
func show(all []api.Change) string {
	var s strings.Builder
	for _, c := range all {
		fmt.Fprint(&s, c.Remove)
		showNode(&s, c.Value)
	}
	return s.String()
}

func showNode(s *strings.Builder, n api.Node) {
	fmt.Fprintf(s, "{%q %q %q %q", n.Text, n.Space, n.Name, n.Attrs)
	for _, kid := range n.Kids {
		showNode(s, kid)
	}
	s.WriteString("}")
}

func wantFind(t *testing.T, body string, kind int, names ...api.Prop) {
	t.Helper()
	got, err := Find(body)
	if !sameFind(got, api.Find{Kind: kind, Names: names}) || err != api.OK {
		t.Errorf("Find(%.300q) = %v, %v, want %d, %v", body, got, err, kind, names)
	}
}

func wantChanges(t *testing.T, body string, want ...api.Change) {
	t.Helper()
	got, err := Changes(body)
	if show(got) != show(want) || err != api.OK {
		t.Errorf("Changes(%.300q) = %s, %v, want %s", body, show(got), err, show(want))
	}
}

func wantLock(t *testing.T, body string, exclusive bool, owner string) {
	t.Helper()
	got, err := Lock(body)
	if got.Exclusive != exclusive || got.Owner != owner || err != api.OK {
		t.Errorf("Lock(%.300q) = %+v, %v, want %v, %q", body, got, err, exclusive, owner)
	}
}

func refuseFind(t *testing.T, want api.Errno, bodies ...string) {
	t.Helper()
	for _, body := range bodies {
		if got, err := Find(body); got.Kind != 0 || len(got.Names) != 0 || err != want {
			t.Errorf("Find(%.300q) = %v, %v, want %v", body, got, err, want)
		}
	}
}

func refuseChanges(t *testing.T, want api.Errno, bodies ...string) {
	t.Helper()
	for _, body := range bodies {
		if got, err := Changes(body); len(got) != 0 || err != want {
			t.Errorf("Changes(%.300q) = %s, %v, want %v", body, show(got), err, want)
		}
	}
}

func refuseLock(t *testing.T, want api.Errno, bodies ...string) {
	t.Helper()
	for _, body := range bodies {
		if got, err := Lock(body); got != (api.Ask{}) || err != want {
			t.Errorf("Lock(%.300q) = %+v, %v, want %v", body, got, err, want)
		}
	}
}

// refuseAll wants a body to be refused by each call.
func refuseAll(t *testing.T, want api.Errno, bodies ...string) {
	t.Helper()
	refuseFind(t, want, bodies...)
	refuseChanges(t, want, bodies...)
	refuseLock(t, want, bodies...)
}

const (
	shared    = "<D:lockscope><D:shared/></D:lockscope>"
	exclusive = "<D:lockscope><D:exclusive/></D:lockscope>"
	writes    = "<D:locktype><D:write/></D:locktype>"
)

// P13.1 to P13.3: the chapter's examples.
func TestExamples(t *testing.T) {
	wantFind(t, body("propfind", "<D:prop><D:getetag/><x:a/><D:getetag/></D:prop>"), api.FindSome, names("DAV: getetag", "x a")...)
	refuseFind(t, api.ErrAsk, body("propfind", ""), `<D:propfind xmlns:D="DAV:"/>`, body("propfind", "<D:allprop/><D:prop><x:a/></D:prop>"))
	wantFind(t, body("propfind", "<D:allprop/><D:include><x:a/></D:include>"), api.FindAll)
	wantChanges(t, body("propertyupdate", "<D:remove><D:prop><x:a/></D:prop></D:remove><D:set><D:prop><x:b>1</x:b></D:prop></D:set>"),
		remove(el("x", "a")), set(el("x", "b", "1")))
	wantLock(t, body("lockinfo", shared+writes), false, "")
	wantFind(t, "", api.FindAll)
	refuseChanges(t, api.ErrXML, "")
	refuseLock(t, api.ErrXML, "")
}

// P13.1 to P13.3: what is no text of chapter 10 is refused as Parse refuses it, whatever it would ask for.
func TestErrorsOfParse(t *testing.T) {
	for _, in := range []string{"<D:allprop/>", "<D:set><D:prop><x:a/></D:prop></D:set>", exclusive + writes, ""} {
		for _, name := range []string{"propfind", "propertyupdate", "lockinfo", "x"} {
			good := body(name, in)
			refuseAll(t, api.ErrXML, good+"x", "x"+good, good[1:], good[:len(good)-1], good+good, "<!DOCTYPE a>"+good,
				strings.Replace(good, "DAV:", "", 1), strings.Replace(good, "DAV:", "\xff", 1), body(name, in+"&x;"), body(name, in+"\x00"), body(name, in+"<z:a/>"))
			refuseAll(t, api.ErrDeep, body(name, in+strings.Repeat("<D:prop>", 16)+strings.Repeat("</D:prop>", 16)), body(name, in+strings.Repeat("<x:a/>", 4096)),
				body(name, in+"<"+strings.Repeat("a", 61)+"/>"), body(name, in+`<a xmlns="`+strings.Repeat("a", 61)+`"/>`))
			refuseAll(t, api.ErrLong, body(name, in+strings.Repeat(" ", 65536)), strings.Repeat("<", 65537))
		}
	}
	refuseAll(t, api.ErrXML, " ", "\n", "x", "<", "<a>", "<a/><b/>", "<!-- -->", "\x00", "\xff", "<?xml version='1.0'?>")
}

// P13.1 to P13.3: a body that asks for something else, or whose element has another name.
func TestOtherBodies(t *testing.T) {
	allIn := "<D:allprop/><D:set><D:prop><x:a/></D:prop></D:set>" + exclusive + writes
	for _, name := range []string{"prop", "allprop", "Propfind", "propfinds", "propfin", "PROPFIND", "xpropfind", "set", "owner", "lockInfo", "lock", "propertyUpdate", "update", "multistatus"} {
		refuseAll(t, api.ErrAsk, body(name, allIn))
	}
	for _, space := range []string{"dav:", "DAV", "DAV::", "DAV: ", "x", "http://DAV:", "DAV:DAV:", "Dav:"} {
		for _, name := range []string{"propfind", "propertyupdate", "lockinfo"} {
			refuseAll(t, api.ErrAsk, `<Q:`+name+` xmlns:Q="`+space+`" xmlns:D="DAV:" xmlns:x="x">`+allIn+`</Q:`+name+`>`)
		}
	}
	for _, name := range []string{"propfind", "propertyupdate", "lockinfo"} {
		refuseAll(t, api.ErrAsk, "<"+name+"/>", "<"+name+">x</"+name+">", body(name, ""), body(name, "x"), body("x", body(name, allIn)))
	}
	refuseFind(t, api.ErrAsk, body("propertyupdate", allIn), body("lockinfo", allIn))
	refuseChanges(t, api.ErrAsk, body("propfind", allIn), body("lockinfo", allIn))
	refuseLock(t, api.ErrAsk, body("propfind", allIn), body("propertyupdate", allIn))
	wantFind(t, body("propfind", allIn), api.FindAll)
	wantChanges(t, body("propertyupdate", allIn), set(el("x", "a")))
	wantLock(t, body("lockinfo", allIn), true, "")
}

// P13.1: each way to ask, whatever stands around it; and none, or more than one.
func TestFind(t *testing.T) {
	asks := []string{"<D:allprop/>", "<D:propname/>", "<D:prop><x:a/></D:prop>"}
	passed := []string{"", "x", "&lt;", "<![CDATA[<D:prop/>]]>", "<!-- <D:prop/> -->", "<?x <D:prop/>?>", "<D:include><D:prop/></D:include>", "<x:prop><x:b/></x:prop>", "<prop/>", "<allprop/>", "<D:Prop/>", "<D:set><D:allprop/></D:set>", "<D:propfind><D:prop/></D:propfind>"}
	for i, ask := range asks {
		for _, before := range passed {
			for _, behind := range passed {
				if i == api.FindSome {
					wantFind(t, body("propfind", before+ask+behind), i, names("x a")...)
				} else {
					wantFind(t, body("propfind", before+ask+behind), i)
				}
				refuseFind(t, api.ErrAsk, body("propfind", before+behind))
				for _, second := range asks {
					refuseFind(t, api.ErrAsk, body("propfind", ask+before+second), body("propfind", ask+second+behind+ask))
				}
			}
		}
	}
	wantFind(t, body("propfind", "<D:allprop>x<x:a/><D:prop><x:a/></D:prop></D:allprop>"), api.FindAll)
	wantFind(t, body("propfind", `<D:propname x="1"><x:a/><D:prop><x:a/></D:prop></D:propname>`), api.FindNames)
	wantFind(t, `<?xml version="1.0"?> <propfind xmlns="DAV:" x="y"><prop y="z"><a/><a xmlns="" z="1"/></prop></propfind> <!-- -->`, api.FindSome, names("DAV: a", " a")...)
}

// P13.1: the properties that are asked for, each once, in the order in which they come first; of a prop alone, and not of what is in them.
func TestFindNames(t *testing.T) {
	wantProps := func(in string, want ...string) {
		t.Helper()
		wantFind(t, body("propfind", "<D:prop>"+in+"</D:prop>"), api.FindSome, names(want...)...)
	}
	wantProps("")
	wantProps(" text &amp; <!-- <x:a/> --><![CDATA[<x:a/>]]>")
	wantProps("<x:b/><x:a/><y:a/><a/><D:a/><x:B/>", "x b", "x a", "y a", " a", "DAV: a", "x B")
	wantProps("<x:b/><x:a/><x:b/><y:b/><x:a/><x:b/><x:c/>", "x b", "x a", "y b", "x c")
	wantProps("t<x:a>t<x:b/></x:a>t<D:prop><x:c/></D:prop>t<D:allprop/>t", "x a", "DAV: prop", "DAV: allprop")
	wantProps(`<x:a x="1"/><x:a y="2">t</x:a><z:a xmlns:z="x"/><a xmlns="x"/>`, "x a")
	wantProps(`<é xmlns="ü"/><a xmlns="x b"/><z:a xmlns:z="/"/><a xmlns="DAV: "/>`, "ü é", "x b a", "/ a", "DAV:  a")
}

// many is so many properties, no two of one name.
func many(n int) string {
	var s strings.Builder
	for i := range n {
		s.WriteString("<x:p" + strconv.Itoa(i) + "/>")
	}
	return s.String()
}

// P13.1: 32 Names are taken, and 33 are not; those that come again don't count.
func TestFindMany(t *testing.T) {
	var want []api.Prop
	for i := range 32 {
		want = append(want, api.Prop{Space: "x", Name: "p" + strconv.Itoa(i)})
	}
	prop := func(in string) string { return body("propfind", "<D:prop>"+in+"</D:prop>") }
	wantFind(t, prop(many(31)), api.FindSome, want[:31]...)
	wantFind(t, prop(many(32)), api.FindSome, want...)
	wantFind(t, prop(many(32)+many(32)), api.FindSome, want...)
	wantFind(t, prop(strings.Repeat(many(32), 100)), api.FindSome, want...)
	wantFind(t, prop(strings.Repeat("<x:p0/>", 33)+many(32)), api.FindSome, want...)
	refuseFind(t, api.ErrFull, prop(many(33)), prop(many(33)+many(33)), prop(many(32)+"<y:p0/>"), prop(many(32)+"<p0/>"), prop(many(3000)), prop(many(32)+many(32)+"<x:q/>"))
	wantFind(t, body("propfind", "<D:allprop/><D:include>"+many(33)+"</D:include>"), api.FindAll)
	wantFind(t, body("propfind", "<D:allprop>"+many(33)+"</D:allprop>"), api.FindAll)
	wantFind(t, body("propfind", "<D:prop><x:p0>"+many(33)+"</x:p0></D:prop>"+many(33)), api.FindSome, want[:1]...)
	refuseFind(t, api.ErrAsk, body("propfind", "<D:prop>"+many(33)+"</D:prop><D:allprop/>"), body("propfind", "<D:prop>"+many(33)+"</D:prop><D:prop/>"))
	refuseChanges(t, api.ErrAsk, prop(many(33)))
}

// P13.2: sets and removes, in order, through any number of them, and of props in them.
func TestChanges(t *testing.T) {
	a, b, c := el("x", "a"), el("x", "b", "1"), el("", "c")
	const as, bs, cs = "<x:a/>", "<x:b>1</x:b>", "<c/>"
	want := func(in string, all ...api.Change) {
		t.Helper()
		wantChanges(t, body("propertyupdate", in), all...)
	}
	want("<D:set><D:prop>"+as+"</D:prop></D:set>", set(a))
	want("<D:remove><D:prop>"+bs+"</D:prop></D:remove>", remove(b))
	want("<D:set><D:prop>"+as+bs+cs+"</D:prop></D:set>", set(a), set(b), set(c))
	want("<D:set><D:prop>"+cs+"</D:prop><D:prop>"+as+bs+"</D:prop></D:set>", set(c), set(a), set(b))
	want("<D:set><D:prop>"+as+"</D:prop></D:set><D:remove><D:prop>"+as+"</D:prop></D:remove><D:set><D:prop>"+as+"</D:prop></D:set>", set(a), remove(a), set(a))
	want("<D:set><D:prop>"+as+as+"</D:prop><D:prop>"+as+"</D:prop></D:set>", set(a), set(a), set(a))
	want("<D:set/><D:remove><D:prop/><D:prop>t</D:prop></D:remove><D:set><D:prop>"+cs+"</D:prop></D:set><D:remove/>", set(c))
	want("t<D:set>t<D:prop>t"+as+"t</D:prop>t</D:set>t", set(a))
	want("<x:set><D:prop>"+bs+"</D:prop></x:set><D:set><x:prop>"+bs+"</x:prop><D:prop>"+as+"</D:prop>"+cs+"</D:set>"+cs+"<D:prop>"+cs+"</D:prop>", set(a))
	want("<D:set><D:set><D:prop>"+as+"</D:prop></D:set><D:prop><D:prop>"+cs+"</D:prop></D:prop></D:set>", set(el("DAV:", "prop", c)))
	want("<D:set><D:prop><D:set/><D:remove/><D:getetag/></D:prop></D:set>", set(el("DAV:", "set")), set(el("DAV:", "remove")), set(el("DAV:", "getetag")))
	for _, in := range []string{"", "t", "<D:set/>", "<D:set>" + as + "</D:set>", "<D:set><D:prop/></D:set>", "<D:set><D:prop>t</D:prop></D:set><D:remove><D:prop> </D:prop></D:remove>",
		"<D:prop>" + as + "</D:prop>", as, "<set><D:prop>" + as + "</D:prop></set>", "<D:set><prop>" + as + "</prop></D:set>", "<D:Set><D:prop>" + as + "</D:prop></D:Set>",
		"<D:removes><D:prop>" + as + "</D:prop></D:removes>", "<D:set><D:set><D:prop>" + as + "</D:prop></D:set></D:set>", "<D:propertyupdate><D:set><D:prop>" + as + "</D:prop></D:set></D:propertyupdate>"} {
		refuseChanges(t, api.ErrAsk, body("propertyupdate", in))
	}
}

// P13.2: a change's Value is the whole element: its attributes, its texts, and what is in it.
func TestValues(t *testing.T) {
	value := `<x:a x="1" y="&lt;">t<b z=""> <y:c/> </b>&amp;<D:prop><x:d/></D:prop><![CDATA[ <e/> ]]></x:a>`
	n, err := xml.Parse(strings.Replace(value, "<x:a", `<x:a xmlns:x="x" xmlns:y="y" xmlns:D="DAV:"`, 1))
	if err != api.OK || len(n.Kids) != 5 {
		t.Fatalf("Parse tells %v, %v", n, err)
	}
	for _, name := range []string{"set", "remove"} {
		in := body("propertyupdate", "<D:"+name+"><D:prop>"+value+"</D:prop></D:"+name+">")
		wantChanges(t, in, api.Change{Remove: name == "remove", Value: n})
		all, _ := Changes(in)
		if len(all) == 1 && !reflect.DeepEqual(all[0].Value, n) {
			t.Errorf("the Value is %v, want %v", all[0].Value, n)
		}
	}
}

// P13.2: 32 changes are taken, and 33 are not, those of one property, too.
func TestChangesMany(t *testing.T) {
	update := func(sets, removes string) string {
		return body("propertyupdate", "<D:set><D:prop>"+sets+"</D:prop></D:set><D:remove><D:prop>"+removes+"</D:prop></D:remove>")
	}
	for _, sets := range []int{0, 1, 15, 31, 32} {
		var want []api.Change
		for i := range 32 {
			n := el("x", "p"+strconv.Itoa(i))
			if i >= sets {
				n.Name = "p" + strconv.Itoa(i-sets)
			}
			want = append(want, api.Change{Remove: i >= sets, Value: n})
		}
		wantChanges(t, update(many(sets), many(32-sets)), want...)
		refuseChanges(t, api.ErrFull, update(many(sets), many(33-sets)), update(many(sets)+"<x:p0/>", many(32-sets)), update(many(sets), many(3000)))
	}
	refuseChanges(t, api.ErrFull, update(strings.Repeat("<x:a/>", 33), ""), update("", strings.Repeat("<x:a/>", 33)), strings.Replace(update(many(33), ""), "<x:p7/>", "</D:prop><D:prop><x:p7/>", 1))
	wantChanges(t, body("propertyupdate", many(33)+"<D:set>"+many(33)+"<D:prop><x:a/></D:prop></D:set>"), set(el("x", "a")))
	refuseChanges(t, api.ErrAsk, body("propfind", "<D:set><D:prop>"+many(33)+"</D:prop></D:set>"))
}

// P13.3: the scope and the type, in any order, whatever stands around them.
func TestLock(t *testing.T) {
	passed := []string{"", "t", "<x:owner/>", "<lockscope/>", "<D:x><D:owner/></D:x>", "<D:exclusive/>", "<!-- <D:owner/> -->", "<D:write/>", "<D:lockInfo/>", "<x:locktype/>", "<D:lockroot/>"}
	for _, before := range passed {
		for _, behind := range passed {
			for _, order := range [][2]string{{exclusive, writes}, {writes, exclusive}} {
				wantLock(t, body("lockinfo", before+order[0]+behind+order[1]), true, "")
				wantLock(t, body("lockinfo", order[0]+before+order[1]+behind), true, "")
			}
			wantLock(t, body("lockinfo", before+shared+writes+behind), false, "")
			wantLock(t, body("lockinfo", "<D:lockscope>t<D:shared>"+before+"</D:shared>t<x:exclusive/></D:lockscope><D:locktype>"+behind+"<D:write>"+before+"</D:write></D:locktype>"), false, "")
			refuseLock(t, api.ErrAsk, body("lockinfo", before+exclusive+behind), body("lockinfo", before+writes+behind), body("lockinfo", before+behind))
		}
	}
	wantLock(t, body("lockinfo", exclusive+"<D:locktype><D:write/><D:write/></D:locktype>"), true, "")
	wantLock(t, body("lockinfo", exclusive+"<D:locktype>t<x:a/><D:write>t</D:write><D:read/></D:locktype>"), true, "")
}

// P13.3: infos that don't say just what they should.
func TestOtherInfos(t *testing.T) {
	for _, scope := range []string{"", "t", "<D:exclusive/>", "<D:lockscope/>", "<D:lockscope>t</D:lockscope>", "<D:lockscope>exclusive</D:lockscope>", "<D:lockscope><exclusive/></D:lockscope>",
		"<D:lockscope><x:shared/></D:lockscope>", "<D:lockscope><D:Exclusive/></D:lockscope>", "<D:lockscope><D:shared/><D:exclusive/></D:lockscope>", "<D:lockscope><D:exclusive/><D:shared/></D:lockscope>",
		"<D:lockscope><D:shared/><D:shared/></D:lockscope>", "<D:lockscope><D:exclusive/>t<D:exclusive/></D:lockscope>", "<D:lockscope><D:x><D:exclusive/></D:x></D:lockscope>",
		"<D:lockscope>" + exclusive + "</D:lockscope>", exclusive + exclusive, shared + exclusive, shared + shared, exclusive + "<D:lockscope/>", "<D:lockscope/>" + shared, "<lockscope><D:exclusive/></lockscope>", "<x:lockscope><D:exclusive/></x:lockscope>", "<D:lockScope><D:exclusive/></D:lockScope>"} {
		refuseLock(t, api.ErrAsk, body("lockinfo", scope+writes), body("lockinfo", writes+scope), body("lockinfo", scope+writes+"<D:owner>t</D:owner>"))
	}
	for _, kind := range []string{"", "t", "<D:write/>", "<D:locktype/>", "<D:locktype>write</D:locktype>", "<D:locktype><write/></D:locktype>", "<D:locktype><x:write/></D:locktype>", "<D:locktype><D:Write/></D:locktype>",
		"<D:locktype><D:read/></D:locktype>", "<D:locktype><D:x><D:write/></D:x></D:locktype>", writes + writes, writes + "<D:locktype/>", "<D:locktype/>" + writes, writes + "t" + writes,
		"<locktype><D:write/></locktype>", "<x:locktype><D:write/></x:locktype>", "<D:lockType><D:write/></D:lockType>", "<D:locktype>" + writes + "</D:locktype>"} {
		refuseLock(t, api.ErrAsk, body("lockinfo", exclusive+kind), body("lockinfo", kind+shared), body("lockinfo", exclusive+kind+"<D:owner>t</D:owner>"))
	}
	owner, long := "<D:owner/>", "<D:owner>"+strings.Repeat("t", 600)+"</D:owner>"
	for _, owners := range []string{owner + owner, owner + "t" + long, long + long, owner + owner + owner} {
		refuseLock(t, api.ErrAsk, body("lockinfo", exclusive+writes+owners), body("lockinfo", owners+exclusive+writes), body("lockinfo", owner+shared+writes+owner))
	}
	refuseLock(t, api.ErrAsk, body("lockinfo", long), body("lockinfo", long+exclusive), body("lockinfo", writes+long), body("propfind", exclusive+writes+long))
}

// P13.3: the owner's form, of all that is in it.
func TestOwner(t *testing.T) {
	for in, form := range map[string]string{
		"<D:owner/>":           `<owner xmlns="DAV:"/>`,
		"<D:owner></D:owner>":  `<owner xmlns="DAV:"/>`,
		"<D:owner>t</D:owner>": `<owner xmlns="DAV:">t</owner>`,
		`<D:owner x="1"> <D:href>http://h/?a&amp;b</D:href><!-- --><x:a y='"'/>` + "\r\n" + `<b><![CDATA[<>]]></b> </D:owner>`: `<owner xmlns="DAV:" x="1"> <href>http://h/?a&amp;b</href><a xmlns="x" y="&quot;"/>` + "\n" + `<b xmlns="">&lt;&gt;</b> </owner>`,
		`<owner xmlns="DAV:"><owner>é</owner></owner>`: `<owner xmlns="DAV:"><owner>é</owner></owner>`,
	} {
		wantLock(t, body("lockinfo", exclusive+writes+in), true, form)
		wantLock(t, body("lockinfo", in+shared+"<owner>t</owner><D:Owner/><x:owner/>"+writes), false, form)
	}
}

// P13.3: an owner's form has 512 bytes at most, however long it stands in the body.
func TestLongOwner(t *testing.T) {
	room := 512 - len(`<owner xmlns="DAV:"></owner>`)
	info := func(in string) string { return body("lockinfo", exclusive+"<D:owner>"+in+"</D:owner>"+writes) }
	for c, as := range map[string]string{"x": "x", "é": "é", "&amp;": "&amp;", "&#38;": "&amp;", ">": "&gt;", "<![CDATA[>]]>": "&gt;", "&#120;": "x", "&#13;": "&#13;", "&apos;": "'", "<x:a/>": `<a xmlns="x"/>`, "<D:a/>": "<a/>"} {
		times, rest := room/len(as), strings.Repeat("x", room%len(as))
		wantLock(t, info(strings.Repeat(c, times)+rest), true, `<owner xmlns="DAV:">`+strings.Repeat(as, times)+rest+"</owner>")
		refuseLock(t, api.ErrLong, info(strings.Repeat(c, times)+rest+"x"), info("x"+rest+strings.Repeat(c, times)), info(strings.Repeat(c, times+1)), info(strings.Repeat(c, 4000)))
	}
	wantLock(t, info(strings.Repeat("<!-- -->", 1000)), true, `<owner xmlns="DAV:"/>`)
	refuseLock(t, api.ErrLong, info(strings.Repeat(">", 60000)), info(strings.Repeat("x", 60000)), info(strings.Repeat("<x:a/>", 4000)))
}
