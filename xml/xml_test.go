package xml

import (
	"fmt"
	"strings"
	"testing"

	"docket/api"
)

// show tells a tree as a text: two trees are the same if and only if their texts are.
func show(n api.Node) string {
	var all strings.Builder
	showTo(&all, n)
	return all.String()
}

func showTo(all *strings.Builder, n api.Node) {
	fmt.Fprintf(all, "{%q %q %q", n.Text, n.Space, n.Name)
	for _, a := range n.Attrs {
		fmt.Fprintf(all, " %q=%q", a.Name, a.Value)
	}
	for _, kid := range n.Kids {
		showTo(all, kid)
	}
	all.WriteString("}")
}

// el is an element: of attributes, of kids, and of texts among these.
func el(space, name string, in ...any) api.Node {
	n := api.Node{Space: space, Name: name}
	for _, x := range in {
		switch x := x.(type) {
		case api.Attr:
			n.Attrs = append(n.Attrs, x)
		case api.Node:
			n.Kids = append(n.Kids, x)
		case string:
			n.Kids = append(n.Kids, api.Node{Text: x})
		}
	}
	return n
}

func at(name, value string) api.Attr {
	return api.Attr{Name: name, Value: value}
}

// nested is so many elements, one in the other, and something in the innermost.
func nested(depth int, in ...any) api.Node {
	n := el("", "a", in...)
	for range depth - 1 {
		n = el("", "a", n)
	}
	return n
}

// wide is an element with so many kids, and as many in all as that and one.
func wide(kids int) api.Node {
	n := el("", "a")
	for range kids {
		n.Kids = append(n.Kids, el("", "b"))
	}
	return n
}

// wantTree holds what Parse tells of a text, and P10.3 of that.
func wantTree(t *testing.T, s string, want api.Node) {
	t.Helper()
	n, err := Parse(s)
	if show(n) != show(want) || err != api.OK {
		t.Errorf("Parse(%.200q) = %.200s, error %d, want %.200s", s, show(n), err, show(want))
		return
	}
	wantBack(t, n)
}

// wantBack holds that a tree is good, and that its form is read as the tree.
func wantBack(t *testing.T, n api.Node) {
	t.Helper()
	if !Good(n) {
		t.Errorf("Good(%.200s) = false", show(n))
	}
	form, err := Write(n)
	if err == api.ErrLong && form == "" {
		return
	}
	if err != api.OK || len(form) > api.MaxText {
		t.Errorf("Write(%.200s) = %.200q, error %d", show(n), form, err)
	}
	again, err := Parse(form)
	if show(again) != show(n) || err != api.OK {
		t.Errorf("Parse(%.200q) = %.200s, error %d, want %.200s", form, show(again), err, show(n))
	}
}

// refuse wants Parse to answer an error, and nothing beside it.
func refuse(t *testing.T, want api.Errno, texts ...string) {
	t.Helper()
	for _, s := range texts {
		n, err := Parse(s)
		if show(n) != show(api.Node{}) || err != want {
			t.Errorf("Parse(%.200q) = %.200s, error %d, want error %d", s, show(n), err, want)
		}
	}
}

// inside puts each of some texts into an element, and then something behind it.
func inside(texts ...string) []string {
	var all []string
	for _, s := range texts {
		all = append(all, "<a>"+s+"</a>", "<a><b/>"+s+"</a>", "<a>x<b>"+s+"</b></a>")
	}
	return all
}

// wantText holds what an element's content says, if that is a text alone.
func wantText(t *testing.T, content, want string) {
	t.Helper()
	wantTree(t, "<a>"+content+"</a>", el("", "a", want))
	wantTree(t, "<a><b/>"+content+"<b/></a>", el("", "a", el("", "b"), want, el("", "b")))
}

// wantValue holds what an attribute's value says, between both sorts of quotes.
func wantValue(t *testing.T, written, want string) {
	t.Helper()
	for _, quote := range []string{`"`, "'"} {
		if !strings.Contains(written, quote) {
			wantTree(t, "<a x="+quote+written+quote+"/>", el("", "a", at("x", want)))
		}
	}
}

func TestExamples(t *testing.T) {
	n := el("u", "a", el("u", "b", at("x", "1")), "t<&")
	wantTree(t, `<a xmlns="u"><b x='1'/>t&lt;<!-- c --><![CDATA[&]]></a>`, n)
	wantForm(t, n, `<a xmlns="u"><b x="1"/>t&lt;&amp;</a>`)
	wantTree(t, `<p:a xmlns:p="u"/>`, el("u", "a"))
	refuse(t, api.ErrXML, "", "<a>", "<a></b>", "<p:a/>", `<a x="1" x="2"/>`, `<a p:x="1" xmlns:p="u"/>`, "<!DOCTYPE a><a/>")
	refuse(t, api.ErrXML, "<a>&foo;</a>", "<a>]]></a>", "<a>&#0;</a>", "a/", "<a/><b/>", "<?xml?><a/>")
	wantTree(t, `<?xml version="1.0"?><a/>`, el("", "a"))
}

// goodLetters are XML's, at the edges of what is.
var goodLetters = []string{
	"\t", "\n", " ", "!", "~", "\x7f", "\u0080", "\u009f", "ä", "\u07ff", "\u0800", "\u2028", "\ufeff", "\ud7ff", "\ue000", "\ufffc", "\ufffd", "\U00010000", "😀", "\U0001ffff", "\U0010ffff",
}

// badLetters are no good UTF-8, or no letters of XML's.
var badLetters = []string{
	"\x00", "\x01", "\x08", "\x0b", "\x0c", "\x0e", "\x1f", "\ufffe", "\uffff",
	"\x80", "\xbf", "\xc3", "\xc3a", "\xe2\x82", "\xf0\x9f\x98", "\xff", "\xfe\xff", // cut off, or begun in the middle
	"\xc0\x80", "\xc1\xbf", "\xe0\x80\x80", "\xe0\x9f\xbf", "\xf0\x8f\xbf\xbf", // longer than need be
	"\xed\xa0\x80", "\xed\xbf\xbf", "\xed\xa0\xbd\xed\xb8\x80", // surrogates
	"\xf4\x90\x80\x80", "\xf5\x80\x80\x80", "\xf8\x88\x80\x80\x80", // above the last letter
}

// P10.1: the letters of a text, wherever they stand.
func TestLetters(t *testing.T) {
	for _, c := range goodLetters {
		wantText(t, "x"+c, "x"+c)
		wantText(t, "<![CDATA["+c+"]]>", c)
		wantTree(t, "<?xml "+c+"?><!--"+c+"--><a/><?b "+c+"?>", el("", "a"))
		if c != "\t" && c != "\n" {
			wantValue(t, c, c)
		}
	}
	for _, c := range badLetters {
		refuse(t, api.ErrXML, inside(c, "x"+c+"y", "<![CDATA["+c+"]]>", "<!--"+c+"-->", "<?b "+c+"?>")...)
		refuse(t, api.ErrXML, `<a x="`+c+`"/>`, "<a"+c+"/>", "<a "+c+`="1"/>`, `<a xmlns="`+c+`"/>`, `<a xmlns:p="`+c+`"/>`)
		refuse(t, api.ErrXML, c, c+"<a/>", "<a/>"+c, "<?xml "+c+"?><a/>", "<!--"+c+"--><a/>", "<a/><?b "+c+"?>")
	}
}

// P10.1: white is four bytes, and no other letter.
func TestWhite(t *testing.T) {
	for b := range 128 {
		c := string(rune(b))
		if strings.Contains("\t\n\r ", c) {
			wantTree(t, c+"<a"+c+`x`+c+"="+c+`"1"`+c+">"+"</a"+c+">"+c, el("", "a", at("x", "1")))
			wantTree(t, "<?xml"+c+"?>"+c+c+"<a"+c+"/>"+c+c, el("", "a"))
			refuse(t, api.ErrXML, "<a></"+c+"a>", "<"+c+"a/>", "<a/"+c+">", "<a><"+c+"/a>", "<"+c+"!---->", "<p"+c+`:a xmlns:p="u"/>`, "<p:"+c+`a xmlns:p="u"/>`, c)
			continue
		}
		refuse(t, api.ErrXML, c+"<a/>", "<a/>"+c, "<a></a"+c+">", `<a x=`+c+`"1"/>`, `<a x="1"`+c+`y="2"/>`)
		if c != "?" { // an instruction ends there
			refuse(t, api.ErrXML, "<?xml"+c+"<a/>")
		}
	}
	for _, c := range []string{"\u0085", "\u00a0", "\u2028", "\u3000", "\ufeff"} {
		refuse(t, api.ErrXML, c+"<a/>", "<a/>"+c, "<a></a >"+c, `<a x=`+c+`"1"/>`, `<a x="1"`+c+`y="2"/>`)
	}
}

// P10.1: which bytes a name begins with, and which others it has.
func TestNames(t *testing.T) {
	const begins = "abcdefghijklmnopqrstuvwxyzABCDEFGHIJKLMNOPQRSTUVWXYZ_"
	for b := 33; b < 127; b++ {
		c := string(rune(b))
		first := strings.Contains(begins, c)
		later := first || strings.Contains("0123456789-.", c)
		holdName(t, c, first)
		holdName(t, "_"+c, later)
		holdName(t, "n"+c+"n", later)
	}
	for _, s := range []string{"ä", "äß", "x\u0080", "\u00d7", "\u00a0", "\u2028", "\ufeff", "\ufffd", "\U0010ffff", "a-.0", "__", "a...", "XML", "Xmlns", "xmlnsx", strings.Repeat("n", 60), strings.Repeat("ä", 30)} {
		holdName(t, s, true)
	}
}

// holdName holds whether a text may be the name of an element, of an attribute, of an instruction, and a prefix.
func holdName(t *testing.T, s string, good bool) {
	t.Helper()
	for text, want := range map[string]api.Node{
		"<" + s + "/>":                       el("", s),
		"<" + s + "></" + s + ">":            el("", s),
		"<a " + s + `="1"/>`:                 el("", "a", at(s, "1")),
		"<" + s + ":a xmlns:" + s + `="u"/>`: el("u", "a"),
		"<p:" + s + ` xmlns:p="u"/>`:         el("u", s),
	} {
		if good {
			wantTree(t, text, want)
		} else {
			refuse(t, api.ErrXML, text)
		}
	}
	if good && s != "XML" {
		wantTree(t, "<?"+s+"?><a/><?"+s+" x?>", el("", "a"))
	}
}

// P10.1: a name has no colon, but between a prefix and a name.
func TestColons(t *testing.T) {
	refuse(t, api.ErrXML, "<:/>", "<:a/>", "<p:/>", "<a:b:c/>", `<p:a:b xmlns:p="u"/>`, `<p::a xmlns:p="u"/>`, `<:a xmlns="u"/>`, `<p: xmlns:p="u"/>`)
	refuse(t, api.ErrXML, `<a :x="1"/>`, `<a x:="1"/>`, `<a xmlns:="u"/>`, `<a xmlns:p:q="u"/>`, `<a :xmlns="u"/>`, `<a x:y:z="u"/>`)
	refuse(t, api.ErrXML, `<p:1 xmlns:p="u"/>`, `<1:p xmlns:p="u"/>`, `<a xmlns:1="u"/>`, `<p:-a xmlns:p="u"/>`, `<p :a xmlns:p="u"/>`, `<a xmlns: p="u"/>`)
}

// P10.1: the declaration stands at the beginning alone.
func TestDeclaration(t *testing.T) {
	for _, s := range []string{"<?xml ?>", "<?xml\t?>", "<?xml\r\n?>", "<?xml x?>", "<?xml ??>", "<?xml >?>", "<?xml <a/>?>", "<?xml ? >?>", `<?xml version="1.0" encoding="x"?>`, "<?xml  ?>\n", "<?xml ?><?y?>", "<?xml ä?>"} {
		wantTree(t, s+"<a/>", el("", "a"))
		wantTree(t, s+"<!--x--><a>"+"x"+"</a><?x?>", el("", "a", "x"))
		if strings.HasSuffix(s, "?>") && !strings.Contains(s, "y") {
			refuse(t, api.ErrXML, " "+s+"<a/>", "<a/>"+s, "<!--x-->"+s+"<a/>", "<a>"+s+"</a>", s+s+"<a/>", s)
		}
	}
	refuse(t, api.ErrXML, "<?xml?><a/>", "<?xml", "<?xml ", "<?xml ?", "<?xml >", "<?xml <a/>", "<?xml ?><?xml ?><a/>", "<?XML ?><a/>", "<?Xml ?><a/>", "<?xml:?><a/>", "<?xml/ ?><a/>", "<?xml ?>?><a/>")
}

// P10.1: comments hold no two dashes.
func TestComments(t *testing.T) {
	for _, s := range []string{"<!---->", "<!-- -->", "<!--x-->", "<!-- - - -->", "<!--->-->", "<!-->-->", "<!--<a>&foo;]]><?x-->", "<!--- x-->", "<!--?>-->", "<!--\r\n-->"} {
		wantTree(t, s+"<a/>", el("", "a"))
		wantTree(t, "<a/>"+s+s, el("", "a"))
		wantTree(t, "<a>"+s+"</a>", el("", "a"))
		wantText(t, "x"+s+"y", "xy")
	}
	for _, s := range []string{"<!-- -- -->", "<!--x--->", "<!---->-->", "<!----->", "<!--->", "<!-->", "<!--", "<!-- ", "<!-- -", "<!-- --", "<!-- -- >", "<! ---->", "<!-x-->", "<!- -x-->", "<!>", "<!", "<!x>", "<!---x", "-->"} {
		refuse(t, api.ErrXML, s, s+"<a/>", "<a/>"+s)
		if s != "-->" && s != "<!---->-->" {
			refuse(t, api.ErrXML, inside(s)...)
		}
	}
}

// P10.1: instructions have a name, which isn't xml.
func TestInstructions(t *testing.T) {
	for _, s := range []string{"<?x?>", "<?x ?>", "<?x y?>", "<?x:y?>", "<?x+?>", "<?x??>", "<?x?y?>", "<?x >?>", "<?x <a>&foo;--]]>?>", "<?xm?>", "<?xmlx?>", "<?xml-x y?>", "<?xmlns?>", "<?XMLx?>", "<?xxml?>", "<?_xml?>", "<?ä?>", "<?x-?>", "<?x \r\n?>"} {
		wantTree(t, s+"<a/>", el("", "a"))
		wantTree(t, "<a/>"+s+s, el("", "a"))
		wantTree(t, "<a>"+s+"</a>", el("", "a"))
		wantText(t, "x"+s+"y", "xy")
	}
	for _, s := range []string{"<?", "<??>", "<? ?>", "<? x?>", "<?1?>", "<?-x?>", "<?:x?>", "<?x", "<?x>", "<?x?", "<?x? >", "<?xml?>", "<?XML?>", "<?xMl x?>", "<?xml:x?>", "<?Xml+?>", "<?>"} {
		refuse(t, api.ErrXML, s, s+"<a/>", "<a/>"+s)
		refuse(t, api.ErrXML, inside(s)...)
	}
}

// P10.1: how elements begin and end.
func TestElements(t *testing.T) {
	for _, s := range []string{"<a/>", "<a />", "<a></a>", "<a ></a >", "<a\n\t\r />", "<a></a\r\n>", "<a><!----><?x?><![CDATA[]]></a>"} {
		wantTree(t, s, el("", "a"))
		wantTree(t, " \t\r\n<?x?><!---->"+s+"\n<!----><?x?> ", el("", "a"))
	}
	wantTree(t, "<a><b/><c><d/></c></a>", el("", "a", el("", "b"), el("", "c", el("", "d"))))
	wantTree(t, "<a><a><a/></a><a/></a>", el("", "a", el("", "a", el("", "a")), el("", "a")))
	wantTree(t, `<p:a xmlns:p="u"></p:a >`, el("u", "a"))
	refuse(t, api.ErrXML, "<", ">", "<>", "</>", "<a", "<a ", "<a/", "<a>", "<a><", "<a></", "<a></a", "<a></a ", "</a>", "<a/ >", "<a / >", "< a/>", "<a></ a>", "<a>< /a>", "<a></a/>", "<a></a x='1'>", "<a></>")
	refuse(t, api.ErrXML, "<a></b>", "<a></aa>", "<aa></a>", "<a></A>", "<a><b></a></b>", "<a><b></a>", "<a></a></a>", "<a/></a>", "<a><b/>", "<a//>", "<a/>>", "<<a/>", "<a<b/>", "<a></a></b>")
	refuse(t, api.ErrXML, "<a/><a/>", "<a></a><b></b>", "<a/>x", "x<a/>", "<a/>&lt;", "&#32;<a/>", "<a/><![CDATA[]]>", "<![CDATA[]]><a/>", "<a/>]]>", " ", "x", "<!---->", "<?x?>", "<?xml ?>")
	refuse(t, api.ErrXML, "<!DOCTYPE a><a/>", "<!DOCTYPE a [<!ENTITY b 'c'>]><a/>", "<a><!DOCTYPE a></a>", "<!ELEMENT a ANY><a/>", "<a/><!DOCTYPE a>", "\ufeff<a/>")
	refuse(t, api.ErrXML, `<p:a xmlns:p="u"></a>`, `<p:a xmlns:p="u" xmlns="u"></a>`, `<p:a xmlns:p="u" xmlns:q="u"></q:a>`, `<a xmlns="u" xmlns:p="u"></p:a>`, `<p:a xmlns:p="u"></p:b>`, `<p:a xmlns:p="u"></p>`, `<p:a xmlns:p="u"></p :a>`)
}

// P10.1: what attributes are made of.
func TestAttributes(t *testing.T) {
	one := el("", "a", at("x", "1"))
	for _, s := range []string{`<a x="1"/>`, `<a x='1'/>`, "<a\tx = '1' />", "<a\n\nx\r=\n\"1\"></a>", `<a   x="1"   />`, `<a x="1"></a>`} {
		wantTree(t, s, one)
	}
	wantTree(t, `<a x="1" y='2' X="3"  z=""/>`, el("", "a", at("x", "1"), at("y", "2"), at("X", "3"), at("z", "")))
	wantTree(t, `<a z="" y="" x=""/>`, el("", "a", at("z", ""), at("y", ""), at("x", "")))
	wantTree(t, `<a a="1"><a a="1"/></a>`, el("", "a", at("a", "1"), el("", "a", at("a", "1"))))
	refuse(t, api.ErrXML, `<a x/>`, `<a x=/>`, `<a x=1/>`, `<a x="1/>`, `<a x='1/>`, `<a x="1'/>`, `<a x='1"/>`, `<a "1"/>`, `<a ="1"/>`, `<a x=="1"/>`, `<a x "1"/>`, `<a x="1""/>`, `<ax="1"/>`, `<a x="1"y="2"/>`, `<a x='1'y="2"/>`, `<a/x="1">`)
	refuse(t, api.ErrXML, `<a x="1`, `<a x=`, `<a x`, `<a x="1"`, `<a x="1" `, `<a x="1",y="2"/>`, `<a 1="1"/>`, `<a -x="1"/>`, `<a x=“1”/>`, "<a x=`1`/>", `<a x="1" <b/>`)
	refuse(t, api.ErrXML, `<a x="1" x="1"/>`, `<a x="1" x='2'/>`, `<a x="1" y="" x=""/>`, `<a xmlns="u" xmlns="u"/>`, `<a xmlns:p="u" xmlns:p="u"/>`, `<a xmlns:p="u" xmlns:p="v"/>`, `<a><b x="" x=""/></a>`)
	refuse(t, api.ErrXML, `<a p:x="1"/>`, `<a xmlns:p="u" p:x="1"/>`, `<p:a xmlns:p="u" p:x="1"/>`, `<a xml:lang="en"/>`, `<a xml:space="preserve"/>`, `<a p:xmlns="u"/>`, `<a Xmlns:p="u"/>`, `<a XMLNS:p="u"/>`)
	wantTree(t, `<a Xmlns="u" XMLNS="v" xml="w" xmlnsx="x" xmln="y"/>`, el("", "a", at("Xmlns", "u"), at("XMLNS", "v"), at("xml", "w"), at("xmlnsx", "x"), at("xmln", "y")))
}

// P10.1: values, and what they say.
func TestValues(t *testing.T) {
	wantValue(t, "", "")
	wantValue(t, `"`, `"`)
	wantValue(t, "'", "'")
	wantValue(t, ">", ">")
	wantValue(t, "]]>", "]]>")
	wantValue(t, "/>", "/>")
	wantValue(t, "-->", "-->")
	wantValue(t, "a=b", "a=b")
	wantValue(t, " x  y ", " x  y ")
	wantValue(t, "\t", " ")
	wantValue(t, "\n", " ")
	wantValue(t, "\r", " ")
	wantValue(t, "\r\n", " ")
	wantValue(t, "\n\r", "  ")
	wantValue(t, "\r\r\n\n\t\t", "     ")
	wantValue(t, "x\r\ny\tz\n", "x y z ")
	wantValue(t, "&#9;&#10;&#13;&#32;", "\t\n\r ")
	wantValue(t, "&#13;\n", "\r ")
	wantValue(t, "\r&#10;", " \n")
	wantValue(t, "&#xD;&#xA;", "\r\n")
	wantValue(t, "&lt;&gt;&amp;&quot;&apos;", `<>&"'`)
	wantValue(t, "&amp;lt;", "&lt;")
	wantValue(t, "&#38;lt;", "&lt;")
	wantValue(t, "x&lt;y&gt;z", "x<y>z")
	wantValue(t, strings.Repeat("ä", 5000), strings.Repeat("ä", 5000))
	refuse(t, api.ErrXML, `<a x="<"/>`, `<a x='<'/>`, `<a x="<b/>"/>`, `<a x="<![CDATA[]]>"/>`, `<a x="&lt"/>`, `<a x="&"/>`, `<a x="& "/>`, `<a x="&foo;"/>`, `<a x="a&b"/>`, `<a x="&lt" y=";"/>`, `<a x="&#;"/>`, `<a x="&#0;"/>`, `<a x="&";"/>`, `<a xmlns="&"/>`)
}

// P10.1: texts, CDATA and references, and that they are one text where they stand side by side.
func TestTexts(t *testing.T) {
	wantText(t, "x", "x")
	wantText(t, " ", " ")
	wantText(t, "\n\t ", "\n\t ")
	wantText(t, `"'>/=?!;#`, `"'>/=?!;#`)
	wantText(t, "]]", "]]")
	wantText(t, "]>", "]>")
	wantText(t, "] ]>", "] ]>")
	wantText(t, "]]&gt;", "]]>")
	wantText(t, "]&#93;>", "]]>")
	wantText(t, "]]<!---->>", "]]>")
	wantText(t, "]<?x?>]>", "]]>")
	wantText(t, "<![CDATA[]]]]>>", "]]>")
	wantText(t, "]]<![CDATA[>]]>", "]]>")
	wantText(t, "<![CDATA[]]]]><![CDATA[>]]>", "]]>")
	wantText(t, "<![CDATA[<a>&lt;<!--x--><?y?></a>]]>", "<a>&lt;<!--x--><?y?></a>")
	wantText(t, "<![CDATA[<![CDATA[]]>", "<![CDATA[")
	wantText(t, "x<![CDATA[y]]>z", "xyz")
	wantText(t, "x<![CDATA[]]>z", "xz")
	wantText(t, "<![CDATA[x]]><!----><![CDATA[y]]>", "xy")
	wantText(t, "x&lt;y&amp;&amp;z", "x<y&&z")
	wantText(t, "&lt;b/&gt;", "<b/>")
	wantText(t, "&amp;lt;", "&lt;")
	wantText(t, "x<!-- --> <?y?><![CDATA[ ]]>&#32;z", "x   z")
	wantTree(t, "<a>x<b>y</b>z</a>", el("", "a", "x", el("", "b", "y"), "z"))
	wantTree(t, "<a> <b/> </a>", el("", "a", " ", el("", "b"), " "))
	wantTree(t, "<a><![CDATA[]]><b/><!--x--><c/><![CDATA[]]></a>", el("", "a", el("", "b"), el("", "c")))
	refuse(t, api.ErrXML, inside("]]>", "x]]>", "]]]>", "]]>]]>", "<![CDATA[]]>]]>", "&lt;]]>", "<!-- -->]]>", "]]>&lt;")...)
	refuse(t, api.ErrXML, inside("<![CDATA[", "<![CDATA[]]", "<![CDATA[]>", "<![cdata[]]>", "<![CDATA []]>", "<! [CDATA[]]>", "<![ CDATA[]]>", "<![CDATA]]>", "<![IGNORE[]]>", "<![]]>", "<![CDATA[]] >")...)
}

// P10.1: ends of lines, written as bytes and by references.
func TestLineEnds(t *testing.T) {
	for written, want := range map[string]string{
		"\r\n": "\n", "\r": "\n", "\n": "\n", "\n\r": "\n\n", "\r\r": "\n\n", "\r\r\n": "\n\n", "\r\n\n": "\n\n", "\r\n\r\n": "\n\n", "x\ry\r\nz\n": "x\ny\nz\n", "\t\r": "\t\n",
	} {
		wantText(t, written, want)
		wantText(t, "<![CDATA["+written+"]]>", want)
		wantText(t, "x"+written+"<![CDATA["+written+"]]>"+written, "x"+want+want+want)
	}
	wantText(t, "&#13;", "\r")
	wantText(t, "&#13;&#10;", "\r\n")
	wantText(t, "&#xd;\n", "\r\n")
	wantText(t, "\r&#10;", "\n\n")
	wantText(t, "\r<!---->\n", "\n\n")
	wantText(t, "\r<![CDATA[\n]]>", "\n\n")
	wantText(t, "<![CDATA[\r]]>\n", "\n\n")
	wantText(t, "<![CDATA[&#13;]]>", "&#13;")
}

// P10.1: references, in texts and in values.
func TestReferences(t *testing.T) {
	for written, want := range map[string]string{
		"&lt;": "<", "&gt;": ">", "&amp;": "&", "&quot;": `"`, "&apos;": "'",
		"&#65;": "A", "&#x41;": "A", "&#065;": "A", "&#000000065;": "A", "&#x000000041;": "A", "&#x6a;&#x6A;": "jj", "&#xaBcD;": "\uabcd",
		"&#9;": "\t", "&#10;": "\n", "&#13;": "\r", "&#32;": " ", "&#127;": "\x7f", "&#128;": "\u0080",
		"&#55295;": "\ud7ff", "&#xD7FF;": "\ud7ff", "&#57344;": "\ue000", "&#xE000;": "\ue000", "&#65533;": "\ufffd", "&#xFFFD;": "\ufffd",
		"&#65536;": "\U00010000", "&#x10000;": "\U00010000", "&#1114111;": "\U0010ffff", "&#x10FFFF;": "\U0010ffff", "&#x00010ffff;": "\U0010ffff",
		"&#xfeff;": "\ufeff", "&#60;": "<", "&#38;": "&", "&#34;": `"`, "&#39;": "'", "&#93;": "]",
	} {
		wantText(t, written, want)
		wantText(t, "x"+written+"y"+written, "x"+want+"y"+want)
		wantValue(t, written, want)
		wantValue(t, written+"x"+written, want+"x"+want)
	}
	for _, s := range []string{
		"&", "&;", "& lt;", "&lt", "&lt ;", "&LT;", "&Lt;", "&nbsp;", "&foo;", "&l;", "&ltx;", "&xlt;", "&amp", "&&amp;", "&lt&gt;",
		"&#;", "&#x;", "&#X41;", "&#xg;", "&#4a;", "&#-1;", "&#+65;", "&# 65;", "&#65 ;", "&#x-41;", "&#x+41;", "&#0x41;", "&#x0x41;", "&#6_5;", "&#x4_1;", "&#65", "&#x41", "&#", "&#x", "&x41;", "&65;", "&##65;", "&#６５;",
		"&#0;", "&#00;", "&#x0;", "&#1;", "&#8;", "&#11;", "&#12;", "&#14;", "&#31;", "&#x1F;", "&#55296;", "&#xD800;", "&#xDFFF;", "&#57343;", "&#65534;", "&#xFFFE;", "&#xFFFF;", "&#65535;",
		"&#1114112;", "&#x110000;", "&#999999999;", "&#x7FFFFFFF;", "&#x80000041;", "&#xFFFFFFFF;", "&#x100000041;", "&#xFFFFFFFFF;", "&#4294967361;",
		"&#0000000065;", "&#x0000000041;", "&#x0000000000000000041;", "&#18446744073709551681;", "&#x10000000000000041;",
	} {
		refuse(t, api.ErrXML, inside(s, "x"+s+"y", s+"&lt;")...)
		refuse(t, api.ErrXML, `<a x="`+s+`"/>`, "<a x='x"+s+"y'/>", `<a xmlns="`+s+`"/>`, `<a xmlns:p="`+s+`"/>`)
	}
}

// P10.1: which namespaces names have, and how far a declaration reaches.
func TestNamespaces(t *testing.T) {
	wantTree(t, `<a xmlns="u"/>`, el("u", "a"))
	wantTree(t, `<a xmlns='u' x="1"/>`, el("u", "a", at("x", "1")))
	wantTree(t, `<a x="1" xmlns="u" y="2" xmlns:p="v" z="3"/>`, el("u", "a", at("x", "1"), at("y", "2"), at("z", "3")))
	wantTree(t, `<a xmlns=""/>`, el("", "a"))
	wantTree(t, `<a xmlns="u"><b/><c xmlns="v"><d/></c><e/><f xmlns=""><g/></f><h/></a>`, el("u", "a", el("u", "b"), el("v", "c", el("v", "d")), el("u", "e"), el("", "f", el("", "g")), el("u", "h")))
	wantTree(t, `<a><b xmlns="u"/><c/></a>`, el("", "a", el("u", "b"), el("", "c")))
	wantTree(t, `<p:a xmlns:p="u"><b/><p:c/><p:d xmlns:p="v"><p:e/></p:d><p:f/></p:a>`, el("u", "a", el("", "b"), el("u", "c"), el("v", "d", el("v", "e")), el("u", "f")))
	wantTree(t, `<p:a xmlns="u" xmlns:p="v"><b/><p:b/></p:a>`, el("v", "a", el("u", "b"), el("v", "b")))
	wantTree(t, `<a xmlns="u" xmlns:p="u" xmlns:q="u"><p:b/><q:b/><b/></a>`, el("u", "a", el("u", "b"), el("u", "b"), el("u", "b")))
	wantTree(t, `<p:p xmlns:p="p"><p:q xmlns:q="q" xmlns:p="r"><q:p/><p:p/></p:q><p:p/></p:p>`, el("p", "p", el("r", "q", el("q", "p"), el("r", "p")), el("p", "p")))
	wantTree(t, `<a xmlns:p="u" xmlns:P="v"><P:b/><p:b/></a>`, el("", "a", el("v", "b"), el("u", "b")))
	wantTree(t, `<a><b xmlns:p="u"><p:c/></b><b xmlns:p="v"><p:c/></b></a>`, el("", "a", el("", "b", el("u", "c")), el("", "b", el("v", "c"))))
	wantTree(t, `<p:a xmlns:p="xmlns"/>`, el("xmlns", "a"))
	wantTree(t, `<XML:a xmlns:XML="u" xmlns:Xmlns="v" xmlns:xmlx="w"/>`, el("u", "a"))
	wantTree(t, `<a xmlns=" u&#9;&lt;	&quot; "/>`, el(" u\t< \" ", "a"))
	wantTree(t, `<p:a xmlns:p="&#32;"/>`, el(" ", "a"))
	wantTree(t, `<xmlns/>`, el("", "xmlns"))
	wantTree(t, `<p:xmlns xmlns:p="u"/>`, el("u", "xmlns"))
	refuse(t, api.ErrXML, `<p:a/>`, `<p:a xmlns="u"/>`, `<p:a xmlns:q="u"/>`, `<p:a xmlns:P="u"/>`, `<a xmlns="u"><p:b/></a>`, `<a><b xmlns:p="u"/><p:c/></a>`, `<a><b xmlns:p="u"><c/></b><p:c/></a>`, `<a><p:b><c xmlns:p="u"/></p:b></a>`, `<a xmlns:p="u"/><p:b/>`)
	refuse(t, api.ErrXML, `<a xmlns:p=""/>`, `<p:a xmlns:p=""/>`, `<p:a xmlns:p="u"><p:b xmlns:p=""/></p:a>`, `<a xmlns:xml="u"/>`, `<a xmlns:xml="http://www.w3.org/XML/1998/namespace"/>`, `<a xmlns:xmlns="u"/>`, `<xml:a/>`, `<xmlns:a/>`, `<xmlns:a xmlns="u"/>`)
}

// P10.1: texts of 65536 bytes, and of one more: whatever they hold, these are too long.
func TestLongTexts(t *testing.T) {
	for _, c := range []string{"x", "\n", ">", " "} {
		most := strings.Repeat(c, api.MaxText-7)
		wantText(t, most[:api.MaxText-50], most[:api.MaxText-50])
		wantTree(t, "<a>"+most+"</a>", el("", "a", most))
		refuse(t, api.ErrLong, "<a>"+most+c+"</a>")
	}
	wantTree(t, strings.Repeat(" ", api.MaxText-4)+"<a/>", el("", "a"))
	wantTree(t, "<a/>"+strings.Repeat("\n", api.MaxText-4), el("", "a"))
	wantTree(t, "<!--"+strings.Repeat("x", api.MaxText-11)+"--><a/>", el("", "a"))
	long := strings.Repeat("x", api.MaxText+1)
	refuse(t, api.ErrLong, long, strings.Repeat("\xff", api.MaxText+1), strings.Repeat("<a>", 30000), strings.Repeat(" ", api.MaxText-3)+"<a/>", long+long)
	refuse(t, api.ErrXML, long[1:], strings.Repeat("\xff", api.MaxText), strings.Repeat(" ", api.MaxText), strings.Repeat("<", api.MaxText))
}

// P10.1: trees that aren't good, just past each limit and at it.
func TestDeepTexts(t *testing.T) {
	n60, n61 := strings.Repeat("n", 60), strings.Repeat("n", 61)
	ä60, ä61 := strings.Repeat("ä", 30), strings.Repeat("ä", 30)+"n"
	wantTree(t, "<"+n60+"/>", el("", n60))
	wantTree(t, "<"+ä60+" "+ä60+`="1"/>`, el("", ä60, at(ä60, "1")))
	wantTree(t, `<a xmlns="`+n60+`"/>`, el(n60, "a"))
	wantTree(t, `<p:a xmlns:p="`+ä60+`"/>`, el(ä60, "a"))
	wantTree(t, `<a xmlns="`+strings.Repeat("&lt;", 60)+`"/>`, el(strings.Repeat("<", 60), "a"))
	refuse(t, api.ErrDeep, "<"+n61+"/>", "<"+ä61+"></"+ä61+">", "<a "+n61+`="1"/>`, "<a "+ä61+`="1"/>`, `<a xmlns="`+n61+`"/>`, `<p:a xmlns:p="`+ä61+`"/>`, "<a><b><"+n61+"/></b></a>", `<p:`+n61+` xmlns:p="u"/>`)
	refuse(t, api.ErrDeep, `<a xmlns="`+strings.Repeat("&lt;", 61)+`"/>`, `<a x="1" `+n61+`=""/>`)

	// What isn't in the tree may be as long as it likes.
	wantTree(t, "<"+n61+`:a xmlns:`+n61+`="u"/>`, el("u", "a"))
	wantTree(t, `<a xmlns:p="`+n61+`"/>`, el("", "a"))
	wantTree(t, `<p:a xmlns:p="u" xmlns="`+n61+`"/>`, el("u", "a"))
	wantTree(t, "<?"+n61+"?><a/><!--"+n61+"-->", el("", "a"))
	wantTree(t, `<a x="`+n61+`">`+n61+"</a>", el("", "a", at("x", n61), n61))
	refuse(t, api.ErrDeep, `<p:a xmlns:p="u" xmlns="`+n61+`"><b/></p:a>`, `<a xmlns:p="`+n61+`"><p:b/></a>`)

	const most = api.MaxDepth
	wantTree(t, strings.Repeat("<a>", most)+strings.Repeat("</a>", most), nested(most))
	wantTree(t, strings.Repeat("<a>", most)+"x<!--x-->"+strings.Repeat("</a>", most), nested(most, "x"))
	refuse(t, api.ErrDeep, strings.Repeat("<a>", most+1)+strings.Repeat("</a>", most+1))
	wantTree(t, strings.Repeat("<a>", 15)+"<a/>"+strings.Repeat("</a>", 15), nested(16))
	refuse(t, api.ErrDeep, strings.Repeat("<a>", 16)+"<a/>"+strings.Repeat("</a>", 16), strings.Repeat("<a>", 9362)+strings.Repeat("</a>", 9362))

	wantTree(t, "<a>"+strings.Repeat("<b/>", 4095)+"</a>", wide(4095))
	refuse(t, api.ErrDeep, "<a>"+strings.Repeat("<b/>", 4096)+"</a>", "<a>"+strings.Repeat("<b/>", 4095)+"x</a>", "<a>"+strings.Repeat("<b/>x", 2048)+"</a>", "<a>"+strings.Repeat("<b/>", 16382)+"</a>")
	wantTree(t, "<a>"+strings.Repeat("<b/><!--x-->", 4095)+"</a>", wide(4095))
}

// P10.1: what is no text as it should be is told ahead of what is too deep.
func TestWhichError(t *testing.T) {
	deep, name := strings.Repeat("<a>", 17)+strings.Repeat("</a>", 17), strings.Repeat("n", 61)
	refuse(t, api.ErrDeep, deep)
	refuse(t, api.ErrXML, deep+"x", deep+"<a/>", deep+"<", "x"+deep, deep[:len(deep)-1], deep+"\x00", deep+"<!--\xff-->", "<"+name+">", "<"+name+"></n>", "<"+name+` x="1" x="1"/>`, "<"+name+">]]></"+name+">")
	refuse(t, api.ErrXML, strings.Repeat("<a>", 21845), strings.Repeat("<a>", 100), strings.Repeat("<b/>", 5000), "<a>"+strings.Repeat("<b/>", 5000), strings.Repeat("<a>", 9362)+strings.Repeat("</a>", 9361))
	refuse(t, api.ErrXML, "<p:"+name+"/>", `<a xmlns:p=""><`+name+"/></a>")
}
