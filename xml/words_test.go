package xml

import (
	"maps"
	"regexp"
	"strconv"
	"strings"
	"testing"

	"docket/api"
)

// The chapter's words, as regular expressions. These take text that isn't good UTF-8, too: each bad byte is then one letter above 127.
const (
	nameForm  = `[A-Za-z_\x{80}-\x{10FFFF}][A-Za-z0-9_.\x{80}-\x{10FFFF}-]*`
	fullForm  = nameForm + `(?::` + nameForm + `)?`
	whiteForm = `[\t\n\r ]`
	attrForm  = whiteForm + `+(` + fullForm + `)` + whiteForm + `*=` + whiteForm + `*("[^"<]*"|'[^'<]*')`
	refForm   = `&(?:lt|gt|amp|quot|apos|#[0-9]{1,9}|#x[0-9a-fA-F]{1,9});`
)

var (
	toldLetters     = regexp.MustCompile(`^[\t\n\r\x{20}-\x{D7FF}\x{E000}-\x{FFFD}\x{10000}-\x{10FFFF}]*$`)
	toldName        = regexp.MustCompile(`^` + nameForm + `$`)
	toldDeclaration = regexp.MustCompile(`^<\?xml` + whiteForm + `(?s:.*?)\?>`)
	toldAside       = regexp.MustCompile(`^(?:<!--(?:[^-]|-[^-])*-->|<\?(` + nameForm + `)(?s:.*?)\?>)`)
	toldWhite       = regexp.MustCompile(`^` + whiteForm + `+`)
	toldTag         = regexp.MustCompile(`^<(` + fullForm + `)((?:` + attrForm + `)*)` + whiteForm + `*(/?)>`)
	toldAttr        = regexp.MustCompile(`^` + attrForm)
	toldEnd         = regexp.MustCompile(`^</(` + fullForm + `)` + whiteForm + `*>`)
	toldCharacters  = regexp.MustCompile(`^<!\[CDATA\[((?s:.*?))\]\]>`)
	toldPlain       = regexp.MustCompile(`^[^<&]+`)
	toldRef         = regexp.MustCompile(`^` + refForm)
	toldRefs        = regexp.MustCompile(refForm)
	toldValue       = regexp.MustCompile(`^(?:[^&]|` + refForm + `)*$`)
	lineEnd         = regexp.MustCompile(`\r\n?`)
	valueWhite      = regexp.MustCompile(`\r\n|[\t\n\r]`)
)

// place is an element that isn't ended yet.
type place struct {
	written string
	node    api.Node
	text    string
	spaces  map[string]string
}

func (p *place) endText() {
	if p.text != "" {
		p.node.Kids = append(p.node.Kids, api.Node{Text: p.text})
	}
	p.text = ""
}

func toldReference(ref string) (string, bool) {
	if letter, ok := map[string]string{"&lt;": "<", "&gt;": ">", "&amp;": "&", "&quot;": `"`, "&apos;": "'"}[ref]; ok {
		return letter, true
	}
	digits, base := strings.Trim(ref, "&#;"), 10
	if strings.HasPrefix(digits, "x") {
		digits, base = digits[1:], 16
	}
	n, _ := strconv.ParseInt(digits, base, 64)
	letter := string(rune(n))
	return letter, n < 0x110000 && []rune(letter)[0] == rune(n) && toldLetters.MatchString(letter)
}

// open begins an element, if the tag is as the words say.
func (p *place) open(tag []string) (place, bool) {
	in := place{written: tag[1], spaces: maps.Clone(p.spaces)}
	met := map[string]bool{}
	for rest := tag[2]; rest != ""; {
		m := toldAttr.FindStringSubmatch(rest)
		rest = rest[len(m[0]):]
		name, value := m[1], valueWhite.ReplaceAllString(m[2][1:len(m[2])-1], " ")
		ok := toldValue.MatchString(value) && !met[name]
		met[name] = true
		value = toldRefs.ReplaceAllStringFunc(value, func(ref string) string {
			letter, good := toldReference(ref)
			ok = ok && good
			return letter
		})
		switch prefix, local, colon := strings.Cut(name, ":"); {
		case !ok:
			return in, false
		case name == "xmlns":
			in.spaces[""] = value
		case colon && (prefix != "xmlns" || value == "" || local == "xml" || local == "xmlns"):
			return in, false
		case colon:
			in.spaces[local] = value
		default:
			in.node.Attrs = append(in.node.Attrs, api.Attr{Name: name, Value: value})
		}
	}
	prefix, local, colon := strings.Cut(tag[1], ":")
	if !colon {
		prefix, local = "", prefix
	}
	space, ok := in.spaces[prefix]
	in.node.Space, in.node.Name = space, local
	return in, ok
}

// toldParse is the chapter's words, taken as they stand: one piece after the other, with a list of the elements that aren't ended.
func toldParse(s string) (api.Node, api.Errno) {
	if len(s) > 65536 {
		return api.Node{}, api.ErrLong
	}
	if string([]rune(s)) != s || !toldLetters.MatchString(s) {
		return api.Node{}, api.ErrXML
	}
	s = toldDeclaration.ReplaceAllString(s, "")
	stack := []place{{spaces: map[string]string{"": ""}}}
	for s != "" {
		p := &stack[len(stack)-1]
		top := len(stack) == 1
		if m := toldAside.FindStringSubmatch(s); m != nil && strings.ToLower(m[1]) != "xml" {
			s = s[len(m[0]):]
		} else if m := toldWhite.FindString(s); m != "" && top {
			s = s[len(m):]
		} else if m := toldTag.FindStringSubmatch(s); m != nil {
			p.endText()
			in, ok := p.open(m)
			if !ok {
				return api.Node{}, api.ErrXML
			}
			if m[len(m)-1] == "/" {
				p.node.Kids = append(p.node.Kids, in.node)
			} else {
				stack = append(stack, in)
			}
			s = s[len(m[0]):]
		} else if m := toldEnd.FindStringSubmatch(s); m != nil && m[1] == p.written {
			p.endText()
			stack = stack[:len(stack)-1]
			above := &stack[len(stack)-1]
			above.node.Kids = append(above.node.Kids, p.node)
			s = s[len(m[0]):]
		} else if m := toldCharacters.FindStringSubmatch(s); m != nil && !top {
			p.text += lineEnd.ReplaceAllString(m[1], "\n")
			s = s[len(m[0]):]
		} else if m := toldPlain.FindString(s); m != "" && !top && !strings.Contains(m, "]]>") {
			p.text += lineEnd.ReplaceAllString(m, "\n")
			s = s[len(m):]
		} else if letter, ok := toldReference(toldRef.FindString(s)); ok && toldRef.MatchString(s) && !top {
			p.text += letter
			s = s[len(toldRef.FindString(s)):]
		} else {
			return api.Node{}, api.ErrXML
		}
	}
	switch all := stack[0].node.Kids; {
	case len(stack) != 1 || len(all) != 1:
		return api.Node{}, api.ErrXML
	case !toldGood(all[0]):
		return api.Node{}, api.ErrDeep
	default:
		return all[0], api.OK
	}
}

func toldLettersOf(s string) bool {
	return string([]rune(s)) == s && toldLetters.MatchString(s)
}

func toldNodes(n api.Node) (nodes, depth int) {
	nodes = 1
	for _, kid := range n.Kids {
		more, deeper := toldNodes(kid)
		nodes, depth = nodes+more, max(depth, deeper)
	}
	if n.Name != "" {
		depth++
	}
	return nodes, depth
}

// toldGood is the chapter's words for trees that end.
func toldGood(n api.Node) bool {
	nodes, depth := toldNodes(n)
	return toldElement(n) && nodes <= 4096 && depth <= 16
}

func toldElement(n api.Node) bool {
	met := map[string]bool{}
	for _, a := range n.Attrs {
		if !toldLettersOf(a.Name) || !toldLettersOf(a.Value) || !toldName.MatchString(a.Name) || len(a.Name) > 60 || a.Name == "xmlns" || met[a.Name] {
			return false
		}
		met[a.Name] = true
	}
	for i, kid := range n.Kids {
		switch {
		case kid.Name != "" && !toldElement(kid):
			return false
		case kid.Name == "" && (kid.Text == "" || !toldLettersOf(kid.Text) || kid.Space != "" || len(kid.Attrs)+len(kid.Kids) > 0):
			return false
		case kid.Name == "" && i > 0 && n.Kids[i-1].Name == "":
			return false
		}
	}
	return n.Text == "" && toldLettersOf(n.Name) && toldName.MatchString(n.Name) && len(n.Name) <= 60 && len(n.Space) <= 60 && toldLettersOf(n.Space)
}

// toldForm is the chapter's words for good trees.
func toldForm(n api.Node, above string) string {
	if n.Name == "" {
		return strings.NewReplacer("&", "&amp;", "<", "&lt;", ">", "&gt;", "\r", "&#13;").Replace(n.Text)
	}
	values := strings.NewReplacer("&", "&amp;", "<", "&lt;", `"`, "&quot;", "\t", "&#9;", "\n", "&#10;", "\r", "&#13;")
	all := "<" + n.Name
	if n.Space != above {
		all += ` xmlns="` + values.Replace(n.Space) + `"`
	}
	for _, a := range n.Attrs {
		all += " " + a.Name + `="` + values.Replace(a.Value) + `"`
	}
	if len(n.Kids) == 0 {
		return all + "/>"
	}
	all += ">"
	for _, kid := range n.Kids {
		all += toldForm(kid, n.Space)
	}
	return all + "</" + n.Name + ">"
}

// holdText holds Parse against the words, and what it tells against P10.3.
func holdText(t *testing.T, s string) api.Errno {
	t.Helper()
	n, err := Parse(s)
	want, wantErr := toldParse(s)
	if show(n) != show(want) || err != wantErr {
		t.Fatalf("Parse(%q) = %s, error %d, want %s, error %d", s, show(n), err, show(want), wantErr)
	}
	if err == api.OK {
		holdTree(t, n)
	}
	return err
}

// holdTree holds Good and Write against the words, and P10.3.
func holdTree(t *testing.T, n api.Node) bool {
	t.Helper()
	good := toldGood(n)
	form, err := Write(n)
	if Good(n) != good || (err == api.ErrXML) == good {
		t.Fatalf("Good(%s) = %v, Write: error %d, want %v", show(n), !good, err, good)
	}
	if !good {
		return false
	}
	want, wantErr := toldForm(n, ""), api.OK
	if len(want) > 65536 {
		want, wantErr = "", api.ErrLong
	}
	if form != want || err != wantErr {
		t.Fatalf("Write(%s) = %q, error %d, want %q, error %d", show(n), form, err, want, wantErr)
	}
	if again, err := Parse(form); wantErr == api.OK && (show(again) != show(n) || err != api.OK) {
		t.Fatalf("Parse(%q) = %s, error %d, want %s", form, show(again), err, show(n))
	}
	return true
}

// dice throws the same numbers in each run.
type dice uint64

func (x *dice) below(n int) int {
	*x = *x*6364136223846793005 + 1442695040888963407
	return int(uint64(*x) >> 33 % uint64(n))
}

func (x *dice) of(all ...string) string {
	return all[x.below(len(all))]
}

// pieces are laid one behind the other; so a text may be spoilt by a piece more or less.
type pieces []string

func (p *pieces) add(all ...string) {
	*p = append(*p, all...)
}

func (x *dice) white() string {
	return x.of("", "", "", "", " ", "\n", "\r\n", "\t")
}

func (x *dice) aside(p *pieces) {
	for x.below(4) == 0 {
		p.add(x.of(" ", "\n", "\t", "<!--", "<?x ", "<?xml-y "))
		switch (*p)[len(*p)-1] {
		case "<!--":
			p.add(x.of("", "x", "<a>", " - "), "-->")
		case "<?x ", "<?xml-y ":
			p.add(x.of("", "x", "<a>", " - "), "?>")
		}
	}
}

func (x *dice) value(p *pieces) {
	quote := x.of(`"`, "'")
	p.add(quote)
	for x.below(2) == 0 {
		p.add(x.of("u", "v", " ", "\n", "\r", "\t", ">", "]]>", "&lt;", "&#9;", "&#xd;", "&amp;", "ä"))
	}
	p.add(quote)
}

func (x *dice) tag(p *pieces, full string, prefixes []string) {
	p.add("<", full)
	var names []string
	for _, name := range []string{"x", "y", "zä", "xmlns", "xmlns:p", "xmlns:q"} {
		if x.below(4) == 0 {
			names = append(names, name)
		}
	}
	for _, prefix := range prefixes {
		if x.below(3) > 0 {
			names = append(names, "xmlns:"+prefix)
		}
	}
	for _, name := range names {
		p.add(x.of(" ", " ", "\n", "\t "), name, x.white(), "=", x.white())
		if strings.HasPrefix(name, "xmlns") && x.below(4) > 0 {
			p.add(`"`, x.of("u", "v", "DAV:", "u&amp;"), `"`)
			continue
		}
		x.value(p)
	}
	p.add(x.white())
}

func (x *dice) element(p *pieces, depth int) {
	prefix := x.of("", "", "", "p:", "q:", "r:")
	full := prefix + x.of("a", "b", "c", "ä")
	var prefixes []string
	if prefix == "r:" {
		prefixes = []string{"r"}
	}
	x.tag(p, full, prefixes)
	if x.below(4) == 0 || depth == 0 {
		p.add("/>")
		return
	}
	p.add(">")
	for x.below(4) > 0 {
		switch x.below(5) {
		case 0, 1:
			x.element(p, depth-1)
		case 2:
			p.add("<![CDATA[", x.of("", "x", "<b/>", "&lt;", "]]", "\r\n"), "]]>")
		case 3:
			p.add(x.of("x", "ä", " ", "\n", "\r", "\r\n", "]]", ">", "]", "&lt;", "&amp;", "&#13;", "&#x10FFFF;", "&quot;"))
		default:
			x.aside(p)
		}
	}
	p.add("</", full, x.white(), ">")
}

// text is one that is as it should be, as far as its namespaces go; or it is spoilt somewhere.
func (x *dice) text() string {
	var p pieces
	if x.below(4) == 0 {
		p.add("<?xml", x.of(" ", "\n"), x.of("", `version="1.0"`), "?>")
	}
	x.aside(&p)
	x.element(&p, 4)
	x.aside(&p)
	for x.below(2) == 0 {
		i, j := x.below(len(p)), x.below(len(p))
		switch x.below(4) {
		case 0:
			p[i] = ""
		case 1:
			p[i] += p[j]
		case 2:
			p[i] = p[j]
		default:
			p[i] += x.of("&", "<", ">", "]]>", "--", "?>", "\x00", "\xff", "\ufffe", "<?xml ?>", "<!DOCTYPE a>", "&#0;", "&foo;", ":", "=", `"`, "'", "/", "a", " x=''", "<![CDATA[", "]]")
		}
	}
	return strings.Join(p, "")
}

// P10.1 to P10.3: many texts, held against the words.
func TestAgainstTheWords(t *testing.T) {
	x := dice(1)
	answers := map[api.Errno]int{}
	for range 60000 {
		answers[holdText(t, x.text())]++
	}
	for _, err := range []api.Errno{api.OK, api.ErrXML} {
		if answers[err] < 10000 {
			t.Errorf("error %d came %d times", err, answers[err])
		}
	}
}

// P10.1 to P10.3: every text of at most so many pieces.
func TestEachShortText(t *testing.T) {
	for _, all := range [][]string{
		{"<a", "<p:a", ">", "/>", "</a>", "</p:a>", ` xmlns:p="u"`, ` xmlns="v"`, "x", "]]>", "<![CDATA[", "&lt;"},
		{"<a>", "</a>", "<a/>", "<!--", "-", "-->", "<?x", "?>", " "},
		{"<", "a", "/", ">", "!", "&"},
	} {
		const most = 5
		texts := []string{""}
		for range most {
			var longer []string
			for _, s := range texts {
				for _, piece := range all {
					longer = append(longer, s+piece)
				}
			}
			for _, s := range longer {
				holdText(t, s)
			}
			texts = longer
		}
	}
}

// P10.1 to P10.3: each byte in the stead of each one of a text that has something of everything, and each of them left out.
func TestEachByteOfAText(t *testing.T) {
	const whole = "<?xml v?>\n<!--c--><p:a xmlns:p='u' x=\"1&#9;\r\n\"><?i?><b xmlns=\"v\"/>t]]&lt;<![CDATA[&]]></p:a >"
	if holdText(t, whole) != api.OK {
		t.Errorf("the whole is refused")
	}
	for i := range len(whole) {
		holdText(t, whole[:i])
		holdText(t, whole[i:])
		holdText(t, whole[:i]+whole[i+1:])
		for b := range 256 {
			holdText(t, whole[:i]+string([]byte{byte(b)})+whole[i+1:])
			holdText(t, whole[:i]+string([]byte{byte(b)})+whole[i:])
		}
	}
}

func (x *dice) letters(most int) string {
	all := ""
	for range x.below(most + 1) {
		all += x.of("a", "b", "ä", "&", "<", ">", `"`, "'", "\t", "\n", "\r", " ", "]]>", "\ufffd", "😀", "&lt;")
	}
	return all
}

// tree is a tree that is good, or has a flaw somewhere.
func (x *dice) tree(depth int, flaw *int) api.Node {
	name := func() string { return x.of("a", "b", "ä", "_1", "x-y", strings.Repeat("n", 60)) }
	n := api.Node{Space: x.of("", "u", "v", x.letters(8)), Name: name()}
	for _, a := range []string{"x", "y", "Xmlns", name()} {
		if x.below(4) == 0 {
			n.Attrs = append(n.Attrs, api.Attr{Name: a, Value: x.letters(5)})
		}
	}
	behindText := false
	for depth > 0 && x.below(4) > 0 {
		behindText = !behindText && x.below(2) == 0
		if behindText {
			n.Kids = append(n.Kids, api.Node{Text: "t" + x.letters(5)})
		} else {
			n.Kids = append(n.Kids, x.tree(depth-1, flaw))
		}
	}
	if *flaw--; *flaw == 0 {
		x.spoil(&n)
	}
	return n
}

func (x *dice) spoil(n *api.Node) {
	bad := x.of("", ":", "a:b", "1", "xmlns", "\x00", "\xff", strings.Repeat("n", 61), "\ufffe", "a b")
	switch x.below(8) {
	case 0:
		n.Name = bad
	case 1:
		n.Space = bad
	case 2:
		n.Text = bad
	case 3:
		n.Attrs = append(n.Attrs, api.Attr{Name: bad})
	case 4:
		n.Attrs = append(n.Attrs, api.Attr{Name: "z", Value: bad}, api.Attr{Name: x.of("x", "z", "zz")})
	case 5:
		n.Kids = append(n.Kids, api.Node{Text: bad})
	case 6:
		n.Kids = append(n.Kids, api.Node{Text: "t", Space: bad})
	default:
		n.Kids = append(n.Kids, api.Node{Text: "t"}, api.Node{Text: "t"})
	}
}

// P10.2, P10.3: many trees, held against the words.
func TestTreesAgainstTheWords(t *testing.T) {
	x := dice(2)
	good := 0
	for range 8000 {
		flaw := x.below(10)
		if holdTree(t, x.tree(4, &flaw)) {
			good++
		}
	}
	if good < 2000 || good > 7500 {
		t.Errorf("%d trees were good", good)
	}
}

// P10.1: whatever bytes a text has, Parse ends.
func FuzzParse(f *testing.F) {
	x := dice(3)
	for range 200 {
		f.Add(x.text())
	}
	f.Fuzz(func(t *testing.T, s string) { holdText(t, s) })
}
