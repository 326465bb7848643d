package ask

import (
	"regexp"
	"slices"
	"strconv"
	"strings"
	"testing"

	"docket/api"
	"docket/xml"
)

// dice throws the same numbers in each run.
type dice uint64

func (x *dice) below(n int) int {
	*x = *x*6364136223846793005 + 1442695040888963407
	return int(uint64(*x) >> 33 % uint64(n))
}

func one[T any](x *dice, of []T) T {
	return of[x.below(len(of))]
}

// line is an element, with the way down to it: D's for DAV:, and each other namespace quoted.
type line struct {
	way  string
	node api.Node
}

func step(n api.Node) string {
	if n.Space == "DAV:" {
		return "/D:" + n.Name
	}
	return "/" + strconv.Quote(n.Space) + n.Name
}

// lines tells all elements of a tree, in order, each with its number in its place, so that no two ways are the same.
func lines(n api.Node, way string) []line {
	if n.Name == "" {
		return nil
	}
	all := []line{{way + step(n), n}}
	for i, kid := range n.Kids {
		all = append(all, lines(kid, way+step(n)+"#"+strconv.Itoa(i))...)
	}
	return all
}

// way is what elements a regular expression asks for; # stands for a place.
func way(form string) *regexp.Regexp {
	return regexp.MustCompile("^" + strings.ReplaceAll(form, "#", "#[0-9]+") + "$")
}

const anyElement = `/(?:D:|"(?:[^"\\]|\\.)*")[^/\x23]+`

var (
	toldFind      = way("/D:propfind")
	toldAsked     = way("/D:propfind#/D:(allprop|propname|prop)")
	toldNames     = way("/D:propfind#/D:prop#" + anyElement)
	toldUpdate    = way("/D:propertyupdate")
	toldChange    = way("/D:propertyupdate#/D:(set|remove)#/D:prop#" + anyElement)
	toldInfo      = way("/D:lockinfo")
	toldScope     = way("/D:lockinfo#/D:lockscope")
	toldExclusive = way("/D:lockinfo#/D:lockscope#/D:(exclusive|shared)")
	toldType      = way("/D:lockinfo#/D:locktype")
	toldWrite     = way("/D:lockinfo#/D:locktype#/D:write")
	toldOwner     = way("/D:lockinfo#/D:owner")
)

func matching(all []line, form *regexp.Regexp) []line {
	var some []line
	for _, l := range all {
		if form.MatchString(l.way) {
			some = append(some, l)
		}
	}
	return some
}

// toldLines reads a body, and tells its elements if the first is the one that is wanted.
func toldLines(body string, first *regexp.Regexp) ([]line, api.Errno) {
	n, err := xml.Parse(body)
	if err != api.OK {
		return nil, err
	}
	all := lines(n, "")
	if !first.MatchString(all[0].way) {
		return nil, api.ErrAsk
	}
	return all, api.OK
}

func toldFinds(body string) (api.Find, api.Errno) {
	if body == "" {
		return api.Find{}, api.OK
	}
	all, err := toldLines(body, toldFind)
	if err != api.OK {
		return api.Find{}, err
	}
	asked := matching(all, toldAsked)
	if len(asked) != 1 {
		return api.Find{}, api.ErrAsk
	}
	f := api.Find{Kind: slices.Index([]string{"allprop", "propname", "prop"}, asked[0].node.Name)}
	for _, l := range matching(all, toldNames) {
		if p := (api.Prop{Space: l.node.Space, Name: l.node.Name}); !slices.Contains(f.Names, p) {
			f.Names = append(f.Names, p)
		}
	}
	if len(f.Names) > 32 {
		return api.Find{}, api.ErrFull
	}
	return f, api.OK
}

func toldChanges(body string) ([]api.Change, api.Errno) {
	all, err := toldLines(body, toldUpdate)
	if err != api.OK {
		return nil, err
	}
	var changes []api.Change
	for _, l := range matching(all, toldChange) {
		changes = append(changes, api.Change{Remove: toldChange.FindStringSubmatch(l.way)[1] == "remove", Value: l.node})
	}
	switch {
	case len(changes) == 0:
		return nil, api.ErrAsk
	case len(changes) > 32:
		return nil, api.ErrFull
	}
	return changes, api.OK
}

func toldLock(body string) (api.Ask, api.Errno) {
	all, err := toldLines(body, toldInfo)
	if err != api.OK {
		return api.Ask{}, err
	}
	scopes, owners := matching(all, toldExclusive), matching(all, toldOwner)
	if len(matching(all, toldScope)) != 1 || len(scopes) != 1 || len(matching(all, toldType)) != 1 || len(matching(all, toldWrite)) == 0 || len(owners) > 1 {
		return api.Ask{}, api.ErrAsk
	}
	a := api.Ask{Exclusive: scopes[0].node.Name == "exclusive"}
	for _, l := range owners {
		a.Owner, err = xml.Write(l.node)
	}
	if err != api.OK || len(a.Owner) > 512 {
		return api.Ask{}, api.ErrLong
	}
	return a, api.OK
}

// hold holds the three calls against the words, and tells how many of them found what they should.
func hold(t *testing.T, body string) int {
	t.Helper()
	found := 0
	f, err := Find(body)
	if want, wantErr := toldFinds(body); !sameFind(f, want) || err != wantErr {
		t.Fatalf("Find(%q) = %v, %v, want %v, %v", body, f, err, want, wantErr)
	}
	if err == api.OK {
		found++
	}
	c, err := Changes(body)
	if want, wantErr := toldChanges(body); show(c) != show(want) || err != wantErr {
		t.Fatalf("Changes(%q) = %s, %v, want %s, %v", body, show(c), err, show(want), wantErr)
	}
	if err == api.OK {
		found++
	}
	a, err := Lock(body)
	if want, wantErr := toldLock(body); a != want || err != wantErr {
		t.Fatalf("Lock(%q) = %+v, %v, want %+v, %v", body, a, err, want, wantErr)
	}
	if err == api.OK {
		found++
	}
	return found
}

// inside tells what may well stand in an element.
func inside(name string) []string {
	switch name {
	case "D:propfind":
		return []string{"D:prop", "D:allprop", "D:propname"}
	case "D:propertyupdate":
		return []string{"D:set", "D:remove"}
	case "D:set", "D:remove":
		return []string{"D:prop"}
	case "D:lockinfo":
		return []string{"D:lockscope", "D:locktype", "D:owner"}
	case "D:lockscope":
		return []string{"D:exclusive", "D:shared"}
	case "D:locktype":
		return []string{"D:write"}
	}
	return []string{"x:a", "x:b", "D:getetag", "c"}
}

// least tells how many elements an element is to have at least.
func least(name string) int {
	switch name {
	case "D:propfind", "D:set", "D:remove", "D:propertyupdate", "D:lockscope", "D:locktype":
		return 1
	}
	return 0
}

var others = []string{"D:prop", "x:prop", "D:set", "remove", "D:propfind", "D:lockinfo", "D:owner", "D:exclusive", "D:lockscope", "x:write", "allprop"}

// element lays an element; wrong says how often something odd stands in it: once in so many parts.
func (x *dice) element(name string, depth, wrong int) string {
	var in strings.Builder
	for i := range inside(name) {
		if name == "D:lockinfo" && depth < 9 {
			in.WriteString(x.element(inside(name)[i], depth+1, wrong))
		}
	}
	for range x.below(2) * x.below(3) * (1 - 1/depth) {
		in.WriteString(one(x, []string{"t", " ", "&lt;", "<!-- -->", "<![CDATA[<D:prop/>]]>", "\n"}))
	}
	if depth < 9 && name != "D:lockinfo" {
		for range least(name) + x.below(2)*x.below(2)*x.below(3) {
			in.WriteString(x.element(one(x, inside(name)), depth+1, wrong))
		}
	}
	if depth < 9 && x.below(wrong) == 0 {
		in.WriteString(x.element(one(x, others), depth+1, wrong))
	}
	if x.below(wrong*8) == 0 {
		in.WriteString(one(x, []string{many(31), many(32), many(33), strings.Repeat("t", 450), strings.Repeat("t", 500)}))
	}
	if x.below(wrong) == 0 {
		name = one(x, others)
	}
	attrs := one(x, []string{"", "", "", " x='1'", ` y="&quot;"`})
	return "<" + name + attrs + ">" + in.String() + "</" + name + ">"
}

// P13.1 to P13.3: many bodies, good ones and bad ones, held against the words.
func TestAgainstTheWords(t *testing.T) {
	x := dice(13)
	found, refused := map[string]int{}, 0
	for range 12000 {
		name := one(&x, []string{"D:propfind", "D:propertyupdate", "D:lockinfo"})
		text := x.element(name, 1, one(&x, []int{6, 20, 300}))
		text = strings.Replace(text, ">", ` xmlns:D="DAV:" xmlns:x="x">`, 1)
		if x.below(10) == 0 {
			at := x.below(len(text))
			text = text[:at] + one(&x, []string{"", "<", "x", "<x/>", "/>"}) + text[at+x.below(2):]
		}
		if hold(t, text) > 0 {
			found[name]++
		} else {
			refused++
		}
	}
	for _, name := range []string{"D:propfind", "D:propertyupdate", "D:lockinfo"} {
		if found[name] < 500 {
			t.Errorf("of %s %d were read", name, found[name])
		}
	}
	if refused < 1000 {
		t.Errorf("%d were refused", refused)
	}
}

// bodies are some that are read.
var bodies = []string{
	`<D:propfind xmlns:D="DAV:"><D:prop>t<a/><D:b/></D:prop></D:propfind>`,
	`<propfind xmlns="DAV:"><allprop/><x/></propfind>`,
	`<D:propfind xmlns:D="DAV:"><D:propname/></D:propfind>`,
	`<D:propertyupdate xmlns:D="DAV:"><D:set><D:prop><a>1</a></D:prop></D:set><D:remove><D:prop><b/></D:prop></D:remove></D:propertyupdate>`,
	`<lockinfo xmlns="DAV:"><lockscope><shared/></lockscope><locktype><write/></locktype><owner>t<a/></owner></lockinfo>`,
}

// P13.1 to P13.3: each byte of bodies made another one, left out, or doubled.
func TestSpoilt(t *testing.T) {
	for _, buf := range bodies {
		if hold(t, buf) != 1 {
			t.Errorf("%q is not read", buf)
		}
		for i := range len(buf) {
			for c := range 256 {
				hold(t, buf[:i]+string([]byte{byte(c)})+buf[i+1:])
			}
			hold(t, buf[:i]+buf[i+1:])
			hold(t, buf[:i]+buf[i:i+1]+buf[i:])
			hold(t, buf[:i])
			hold(t, buf[i:])
		}
	}
}

// P13.1 to P13.3: all bodies of a few pieces.
func TestSmall(t *testing.T) {
	for _, around := range []struct{ name, pieces string }{
		{"propfind", "<D:allprop/>|<D:propname/>|<D:prop><a/></D:prop>|<D:prop/>|<prop/>|t"},
		{"propertyupdate", "<D:set><D:prop><a/></D:prop></D:set>|<D:remove><D:prop><a/><b/></D:prop><D:prop/></D:remove>|<D:set><D:prop/></D:set>|<D:prop><a/></D:prop>|<set/>|t"},
		{"lockinfo", "<D:lockscope><D:shared/></D:lockscope>|<D:lockscope><D:exclusive/></D:lockscope>|<D:lockscope/>|<D:locktype><D:write/></D:locktype>|<D:locktype/>|<D:owner/>|<owner/>"},
	} {
		pieces := strings.Split(around.pieces, "|")
		all, ends := []string{""}, []string{""}
		for range 4 {
			var longer []string
			for _, s := range ends {
				for _, piece := range pieces {
					longer = append(longer, s+piece)
				}
			}
			all, ends = append(all, longer...), longer
		}
		for _, in := range all {
			hold(t, body(around.name, in))
		}
	}
}

func FuzzAgainstTheWords(f *testing.F) {
	for _, body := range bodies {
		f.Add(body)
	}
	f.Fuzz(func(t *testing.T, body string) { hold(t, body) })
}
