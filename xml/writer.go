package xml

import (
	"strings"

	"docket/api"
)

// writer writes a tree, and gives up once its form is too long.
type writer struct {
	form strings.Builder
}

func write(n api.Node) string {
	demand(Good(n), api.ErrXML)
	var w writer
	w.element(n, "")
	return w.form.String()
}

func (w *writer) add(s string) {
	demand(len(s) <= api.MaxText-w.form.Len(), api.ErrLong)
	w.form.WriteString(s)
}

// element writes an element that stands in one of the Space above.
func (w *writer) element(n api.Node, above string) {
	w.add("<" + n.Name)
	if n.Space != above {
		w.attribute(declares, n.Space)
	}
	for _, a := range n.Attrs {
		w.attribute(a.Name, a.Value)
	}
	if len(n.Kids) == 0 {
		w.add("/>")
		return
	}
	w.add(">")
	for _, kid := range n.Kids {
		if kid.Name == "" {
			w.letters(kid.Text, inText)
			continue
		}
		w.element(kid, n.Space)
	}
	w.add("</" + n.Name + ">")
}

func (w *writer) attribute(name, value string) {
	w.add(" " + name + `="`)
	w.letters(value, inValue)
	w.add(`"`)
}

// letters writes a text letter by letter, each as it stands where the text does.
func (w *writer) letters(s string, stands func(c rune) string) {
	for _, c := range s {
		w.add(stands(c))
	}
}

func inText(c rune) string {
	switch c {
	case '&':
		return "&amp;"
	case '<':
		return "&lt;"
	case '>':
		return "&gt;"
	case '\r':
		return "&#13;"
	}
	return string(c)
}

func inValue(c rune) string {
	switch c {
	case '&':
		return "&amp;"
	case '<':
		return "&lt;"
	case '"':
		return "&quot;"
	case '\t':
		return "&#9;"
	case '\n':
		return "&#10;"
	case '\r':
		return "&#13;"
	}
	return string(c)
}
