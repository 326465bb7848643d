package xml

import (
	goxml "encoding/xml"
	"io"
	"strings"
	"testing"

	"docket/api"
)

// wordsOf tells what Go's own reader of XML says of a text: tags and texts, one behind the other.
func wordsOf(t *testing.T, s string) string {
	t.Helper()
	var said strings.Builder
	text := ""
	endText := func() {
		if text != "" {
			said.WriteString("text " + show(api.Node{Text: text}) + "\n")
		}
		text = ""
	}
	d := goxml.NewDecoder(strings.NewReader(s))
	depth := 0
	for {
		token, err := d.Token()
		if err == io.EOF {
			return said.String()
		}
		if err != nil {
			t.Fatalf("%q is read, but is no XML: %v", s, err)
		}
		switch x := token.(type) {
		case goxml.CharData:
			if depth > 0 {
				text += string(x)
			}
		case goxml.StartElement:
			depth++
			endText()
			n := api.Node{Space: x.Name.Space, Name: x.Name.Local}
			for _, a := range x.Attr {
				if a.Name.Space != "xmlns" && a.Name.Local != "xmlns" {
					n.Attrs = append(n.Attrs, api.Attr{Name: a.Name.Local, Value: a.Value})
				}
			}
			said.WriteString(begin(n))
		case goxml.EndElement:
			depth--
			endText()
			said.WriteString("end\n")
		}
	}
}

// begin tells an element without its kids. Go's reader leaves white in values as it is written, so any is a blank here.
func begin(n api.Node) string {
	blanks := strings.NewReplacer("\t", " ", "\n", " ", "\r", " ")
	own := api.Node{Space: blanks.Replace(n.Space), Name: n.Name}
	for _, a := range n.Attrs {
		own.Attrs = append(own.Attrs, api.Attr{Name: a.Name, Value: blanks.Replace(a.Value)})
	}
	return "begin " + show(own) + "\n"
}

// ownWords tells the same of a tree.
func ownWords(n api.Node) string {
	if n.Name == "" {
		return "text " + show(n) + "\n"
	}
	all := begin(n)
	for _, kid := range n.Kids {
		all += ownWords(kid)
	}
	return all + "end\n"
}

// P10.1: it is a subset: what Parse takes is XML, and says what it says. (Go's reader looks into a declaration, so that is left out.)
func TestSubset(t *testing.T) {
	x := dice(4)
	held := 0
	for range 20000 {
		s := x.text()
		n, err := Parse(s)
		if err != api.OK {
			continue
		}
		held++
		if got, want := wordsOf(t, toldDeclaration.ReplaceAllString(s, "")), ownWords(n); got != want {
			t.Fatalf("%q says\n%s, and is read as\n%s", s, got, want)
		}
	}
	if held < 5000 {
		t.Errorf("%d texts were held against Go's reader", held)
	}
}

// P10.2: what Write writes is XML, and says the tree.
func TestFormsAreXML(t *testing.T) {
	x := dice(5)
	for range 3000 {
		none := 0
		n := x.tree(3, &none)
		form, err := Write(n)
		if err != api.OK {
			t.Fatalf("Write(%s): error %d", show(n), err)
		}
		if got, want := wordsOf(t, form), ownWords(n); got != want {
			t.Fatalf("%q says\n%s, want\n%s", form, got, want)
		}
	}
}
