package xml

import (
	"strings"
	"testing"

	"docket/api"
)

// wantForm holds what Write tells of a tree, and P10.3 of that.
func wantForm(t *testing.T, n api.Node, want string) {
	t.Helper()
	form, err := Write(n)
	if form != want || err != api.OK {
		t.Errorf("Write(%.200s) = %.200q, error %d, want %.200q", show(n), form, err, want)
	}
	wantBack(t, n)
}

// refuseTree wants a tree not to be good, wherever it stands, and Write to tell nothing of it.
func refuseTree(t *testing.T, what string, n api.Node) {
	t.Helper()
	for _, in := range []api.Node{n, el("", "a", n), el("u", "a", "x", el("u", "b", el("", "c"), n), el("", "d"))} {
		if Good(in) {
			t.Errorf("%s: Good(%.200s) = true", what, show(in))
		}
		if form, err := Write(in); form != "" || err != api.ErrXML {
			t.Errorf("%s: Write = %.200q, error %d", what, form, err)
		}
	}
}

// P10.2: what is no good tree, at the top, or below.
func TestFlaws(t *testing.T) {
	n60, n61, ä61 := strings.Repeat("n", 60), strings.Repeat("n", 61), strings.Repeat("ä", 30)+"n"
	for _, name := range []string{"", " ", "1", "-a", ".a", "a b", "a:b", ":a", "a:", "a/", "<a", "a>", "a\n", "a=", "é "} {
		if name != "" {
			refuseTree(t, "an element's Name", el("", name))
		}
		refuseTree(t, "an attribute's Name", el("", "a", at(name, "")))
		refuseTree(t, "an attribute's Name behind others", el("", "a", at("x", ""), at(name, "")))
	}
	for _, s := range badLetters {
		for _, s := range []string{s, "x" + s, s + "x"} {
			refuseTree(t, "letters of a Name", el("", s))
			refuseTree(t, "letters of a Space", el(s, "a"))
			refuseTree(t, "letters of a text", el("", "a", s))
			refuseTree(t, "letters of an attribute's Name", el("", "a", at(s, "")))
			refuseTree(t, "letters of a Value", el("", "a", at("x", s)))
		}
	}
	for _, s := range []string{n61, ä61, n60 + "ä", strings.Repeat("n", 1<<20)} {
		refuseTree(t, "a long Name", el("", s))
		refuseTree(t, "a long Space", el(s, "a"))
		refuseTree(t, "an attribute's long Name", el("", "a", at(s, "")))
	}
	refuseTree(t, "xmlns", el("u", "a", at("xmlns", "u")))
	refuseTree(t, "xmlns behind others", el("", "a", at("x", ""), at("xmlns", "")))
	refuseTree(t, "a prefix", el("", "a", at("xmlns:p", "u")))
	refuseTree(t, "the same twice", el("", "a", at("x", "1"), at("x", "1")))
	refuseTree(t, "the same name twice", el("", "a", at("x", "1"), at("y", "1"), at("x", "2")))
	refuseTree(t, "an element's Text", api.Node{Name: "a", Text: "x"})
	refuseTree(t, "nothing", api.Node{})
	refuseTree(t, "a text without bytes", el("", "a", ""))
	refuseTree(t, "a text without bytes beside others", el("", "a", el("", "b"), "", el("", "b")))
	refuseTree(t, "a text's Space", el("", "a", api.Node{Text: "x", Space: "u"}))
	refuseTree(t, "a text's Attrs", el("", "a", api.Node{Text: "x", Attrs: []api.Attr{{Name: "x"}}}))
	refuseTree(t, "a text's Kids", el("", "a", api.Node{Text: "x", Kids: []api.Node{{Text: "y"}}}))
	refuseTree(t, "a nameless element", el("", "a", el("", "", el("", "b"))))
	refuseTree(t, "two texts", el("", "a", "x", "y"))
	refuseTree(t, "two texts behind others", el("", "a", "x", el("", "b"), "x", "y"))
	for _, n := range []api.Node{{Text: "x"}, {Space: "u"}, {Attrs: []api.Attr{{Name: "x"}}}, {Kids: []api.Node{{Name: "a"}}}} {
		if form, err := Write(n); Good(n) || form != "" || err != api.ErrXML {
			t.Errorf("Good(%s) = %v, Write = %q, error %d", show(n), Good(n), form, err)
		}
	}
}

// P10.2: what lies just within the limits, or is odd, but good.
func TestGoodTrees(t *testing.T) {
	n60, ä60 := strings.Repeat("n", 60), strings.Repeat("ä", 30)
	for _, s := range []string{"a", "_", "ä", "\u0080", "\ufffd", "a-.0", "xmlns", "xml", n60, ä60} {
		wantForm(t, el("", s), "<"+s+"/>")
		wantForm(t, el("u", s, "x"), "<"+s+` xmlns="u">x</`+s+">")
		if s != "xmlns" {
			wantForm(t, el("", "a", at(s, "1")), "<a "+s+`="1"/>`)
		}
	}
	for _, s := range []string{" ", n60, ä60, "DAV:", "xmlns", "xml", "\ufffd", "'", ">", "]]>", "a b", "1"} {
		wantForm(t, el(s, "a"), `<a xmlns="`+s+`"/>`)
	}
	wantForm(t, el("", "a", at("x", ""), at("X", ""), at("xmlnsx", ""), at("Xmlns", "")), `<a x="" X="" xmlnsx="" Xmlns=""/>`)
	wantForm(t, el("", "a", at("b", n60+n60), n60+n60), `<a b="`+n60+n60+`">`+n60+n60+"</a>")
	wantForm(t, el("", "a", "x", el("", "b"), "y", el("", "b"), el("", "b"), "z"), "<a>x<b/>y<b/><b/>z</a>")
	n := el("", "a", "x")
	n.Attrs, n.Kids[0].Attrs, n.Kids[0].Kids = []api.Attr{}, []api.Attr{}, []api.Node{}
	wantForm(t, n, "<a>x</a>")
	wantForm(t, api.Node{Name: "a", Kids: []api.Node{}}, "<a/>")
}

// P10.2: how deep a tree may be, and how many nodes it may have.
func TestLimits(t *testing.T) {
	wantForm(t, nested(16), strings.Repeat("<a>", 15)+"<a/>"+strings.Repeat("</a>", 15))
	wantForm(t, nested(16, "x"), strings.Repeat("<a>", 16)+"x"+strings.Repeat("</a>", 16))
	wantForm(t, nested(15, el("", "b"), "x", el("", "c")), strings.Repeat("<a>", 15)+"<b/>x<c/>"+strings.Repeat("</a>", 15))
	wantForm(t, wide(4095), "<a>"+strings.Repeat("<b/>", 4095)+"</a>")
	wantForm(t, el("", "a", wide(4094)), "<a><a>"+strings.Repeat("<b/>", 4094)+"</a></a>")
	full := el("", "a")
	for range 2047 {
		full.Kids = append(full.Kids, api.Node{Text: "x"}, el("", "b", at("x", "")))
	}
	full.Kids = append(full.Kids, api.Node{Text: "x"})
	wantForm(t, full, "<a>"+strings.Repeat(`x<b x=""/>`, 2047)+"x</a>")

	refuseTree(t, "too deep", nested(17))
	refuseTree(t, "too deep and wide", nested(16, "x", el("", "b")))
	refuseTree(t, "much too deep", nested(20000))
	refuseTree(t, "too many", wide(4096))
	refuseTree(t, "much too many", wide(1<<17))
	refuseTree(t, "too many of both sorts", el("", "a", wide(4094), "x"))
	full.Kids = append(full.Kids, el("", "b"))
	refuseTree(t, "a text and an element too many", full)
	if !Good(el("", "a", nested(15))) || Good(el("", "a", nested(16))) {
		t.Errorf("depths are told otherwise below")
	}
}

// P1 (rule 1): trees that hold themselves, or hold one thing many times.
func TestOddTrees(t *testing.T) {
	kids := make([]api.Node, 1)
	kids[0] = api.Node{Name: "a", Kids: kids}
	many := make([]api.Node, 3000)
	for i := range many {
		many[i] = api.Node{Name: "a", Kids: many}
	}
	shared := el("", "a")
	for range 15 {
		shared = el("", "a", shared, shared, shared)
	}
	for _, n := range []api.Node{kids[0], many[0], shared} {
		if Good(n) {
			t.Errorf("Good tells true")
		}
		if form, err := Write(n); form != "" || err != api.ErrXML {
			t.Errorf("Write = %.80q, error %d", form, err)
		}
	}
	b := el("u", "b", "x")
	wantForm(t, el("", "a", b, b, b), `<a><b xmlns="u">x</b><b xmlns="u">x</b><b xmlns="u">x</b></a>`)
}

// P10.2: the form, namespaces by namespaces.
func TestForm(t *testing.T) {
	wantForm(t, el("", "a"), "<a/>")
	wantForm(t, el("u", "a", el("u", "b"), el("v", "b", el("v", "c"), el("u", "c"), el("", "c", el("", "d"))), el("", "b", el("u", "c"))),
		`<a xmlns="u"><b/><b xmlns="v"><c/><c xmlns="u"/><c xmlns=""><d/></c></b><b xmlns=""><c xmlns="u"/></b></a>`)
	wantForm(t, el("", "a", el("u", "b", at("x", "1"), at("y", "2")), el("", "c", at("z", "3"), "t")), `<a><b xmlns="u" x="1" y="2"/><c z="3">t</c></a>`)
	wantForm(t, el("", "a", at("z", "1"), at("y", "2")), `<a z="1" y="2"/>`)
}

// P10.2: how letters stand in texts, in values and in Spaces.
func TestEscapes(t *testing.T) {
	for b := range 128 {
		c := string(rune(b))
		if !isLetter(rune(b)) {
			continue
		}
		inText, inValue := c, c
		if s := map[string]string{"&": "&amp;", "<": "&lt;", ">": "&gt;", "\r": "&#13;"}[c]; s != "" {
			inText = s
		}
		if s := map[string]string{"&": "&amp;", "<": "&lt;", `"`: "&quot;", "\t": "&#9;", "\n": "&#10;", "\r": "&#13;"}[c]; s != "" {
			inValue = s
		}
		wantForm(t, el("", "a", c), "<a>"+inText+"</a>")
		wantForm(t, el("", "a", "x"+c+c+"y"), "<a>x"+inText+inText+"y</a>")
		wantForm(t, el("", "a", at("x", c)), `<a x="`+inValue+`"/>`)
		wantForm(t, el("", "a", at("x", "x"+c+c+"y")), `<a x="x`+inValue+inValue+`y"/>`)
		wantForm(t, el(c, "a"), `<a xmlns="`+inValue+`"/>`)
		wantForm(t, el("", "a", el("x"+c+c+"y", "b")), `<a><b xmlns="x`+inValue+inValue+`y"/></a>`)
	}
	for _, c := range goodLetters[6:] {
		wantForm(t, el(c, "a", at("x", c), c), `<a xmlns="`+c+`" x="`+c+`">`+c+"</a>")
	}
	wantForm(t, el("", "a", "&lt;&#13;]]><!--"), "<a>&amp;lt;&amp;#13;]]&gt;&lt;!--</a>")
}

// P10.2: forms of 65536 bytes, and of one more.
func TestLongForms(t *testing.T) {
	room := api.MaxText - len("<a></a>")
	for c, as := range map[string]string{"x": "x", "ä": "ä", "&": "&amp;", ">": "&gt;", "\r": "&#13;", "😀": "😀"} {
		times, rest := room/len(as), strings.Repeat("x", room%len(as))
		wantForm(t, el("", "a", strings.Repeat(c, times)+rest), "<a>"+strings.Repeat(as, times)+rest+"</a>")
		wantLong(t, el("", "a", strings.Repeat(c, times)+rest+"x"))
		wantLong(t, el("", "a", strings.Repeat(c, times+1)))
		wantLong(t, el("", "a", strings.Repeat(c, 100000)))
	}
	room = api.MaxText - len(`<a x=""/>`)
	for c, as := range map[string]string{"x": "x", `"`: "&quot;", "\n": "&#10;", "\t": "&#9;", "'": "'", ">": ">"} {
		times, rest := room/len(as), strings.Repeat("x", room%len(as))
		wantForm(t, el("", "a", at("x", strings.Repeat(c, times)+rest)), `<a x="`+strings.Repeat(as, times)+rest+`"/>`)
		wantLong(t, el("", "a", at("x", strings.Repeat(c, times)+rest+"x")))
	}
	wantLong(t, el("", "a", strings.Repeat("x", 1<<20)))
	n := el("", "a", strings.Repeat("x", room), el("u", "b"))
	wantLong(t, n)
	name := strings.Repeat("n", 60)
	n = el("", name)
	for range 1100 {
		n.Kids = append(n.Kids, el("", name))
	}
	wantLong(t, n)
	n = el("", name, at("x", ""))
	n.Attrs[0].Value = strings.Repeat("x", api.MaxText-len("<"+name+` x=""/>`))
	wantForm(t, n, "<"+name+` x="`+n.Attrs[0].Value+`"/>`)
	n.Attrs[0].Value += "x"
	wantLong(t, n)
	n.Attrs = append(n.Attrs, at("x", ""))
	refuseTree(t, "neither good nor short", n)
}

// wantLong wants a good tree's form to be too long.
func wantLong(t *testing.T, n api.Node) {
	t.Helper()
	if !Good(n) {
		t.Errorf("Good(%.80s) = false", show(n))
	}
	if form, err := Write(n); form != "" || err != api.ErrLong {
		t.Errorf("Write(%.80s) = %d bytes, error %d", show(n), len(form), err)
	}
}

// P10.3: a text whose tree has a longer form than Write writes is read nonetheless.
func TestShortTextOfLongForm(t *testing.T) {
	n, err := Parse("<a>" + strings.Repeat(">", 60000) + "</a>")
	if err != api.OK || n.Kids[0].Text != strings.Repeat(">", 60000) {
		t.Errorf("Parse: error %d", err)
	}
	wantLong(t, n)
}
