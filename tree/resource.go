package tree

import (
	"slices"
	"strings"

	"docket/api"
	"docket/uri"
	"docket/xml"
)

// mostForm is how many bytes the form of a dead property may have.
const mostForm = 4096

// resource is a resource that was found: its path, the key of its record, and that.
type resource struct {
	path []string
	key  string
	record
}

// name tells the last segment of a member's path.
func (r resource) name() string {
	return r.path[len(r.path)-1]
}

// find finds the resource at a path, if there is one. Nothing is below a file: none is a member of it.
func (t *Tree) find(path []string) (resource, bool) {
	r := t.root()
	for _, segment := range path {
		key := entryKey(r.id, segment)
		packed, there := t.get(key)
		if !there {
			return resource{}, false
		}
		r = resource{key: key, record: unpackRecord(packed)}
	}
	r.path = path
	return r, true
}

func (t *Tree) root() resource {
	key := entryKey(noID, "")
	packed, there := t.get(key)
	if !there {
		return resource{key: key, record: record{kind: api.Dir, id: rootID}}
	}
	return resource{key: key, record: unpackRecord(packed)}
}

// must finds a resource that has to be there.
func (t *Tree) must(path []string) resource {
	r, there := t.find(path)
	demand(there, api.ErrNone)
	return r
}

// members finds a resource's members, in order.
func (t *Tree) members(r resource) []resource {
	var all []resource
	mark := entryKey(r.id, "")
	for _, pair := range t.scan(mark, r.members) {
		path := slices.Concat(r.path, []string{pair.Key})
		all = append(all, resource{path: path, key: mark + pair.Key, record: unpackRecord(pair.Value)})
	}
	return all
}

// walk finds a resource and, in order, those below it that have at most so many segments more.
func (t *Tree) walk(r resource, depth int) []resource {
	all := []resource{r}
	if depth == 0 {
		return all
	}
	for _, m := range t.members(r) {
		all = append(all, t.walk(m, depth-1)...)
	}
	return all
}

// findProp finds a dead property, if there is one of its name: the key of its pair, and the id of the text that is its form.
func (t *Tree) findProp(r resource, p api.Prop) (key string, text int64, there bool) {
	if !mayBe(p) {
		return "", noID, false
	}
	key = propKey(r.id, p)
	packed, there := t.get(key)
	if there {
		text = readNumber(packed)
	}
	return key, text, there
}

func (t *Tree) props(r resource) []api.Node {
	var all []api.Node
	for _, pair := range t.scan(propsKey(r.id), r.props) {
		prop, err := xml.Parse(t.text(readNumber(pair.Value)))
		demand(err == api.OK, api.ErrBad)
		all = append(all, prop)
	}
	return all
}

// tell tells a resource as it is seen from outside.
func (t *Tree) tell(r resource) api.Resource {
	return api.Resource{
		Path:  fresh(r.path),
		Kind:  r.kind,
		Body:  t.text(r.text),
		Etag:  r.etag,
		Props: t.props(r),
	}
}

// formOf tells the form of a dead property's value.
func formOf(value api.Node) string {
	form, err := xml.Write(value)
	demand(err != api.ErrXML, api.ErrArg)
	demand(err == api.OK && len(form) <= mostForm, api.ErrLong)
	return form
}

// fresh copies a path, and its segments too: they are shared with what was handed in, and with other paths.
func fresh(path []string) []string {
	var all []string
	for _, segment := range path {
		all = append(all, strings.Clone(segment))
	}
	return all
}

// wantNone gives up where something is at a path.
func (t *Tree) wantNone(path []string) {
	_, there := t.find(path)
	demand(!there, api.ErrThere)
}

// wantRoom gives up where nothing can come to be at a path that isn't there.
func (t *Tree) wantRoom(path []string) {
	parent, there := t.find(parentOf(path))
	demand(there && parent.kind == api.Dir, api.ErrParent)
	demand(parent.members < api.MaxMembers, api.ErrFull)
}

// wantWay gives up where a resource can't come to another path, all that stand below it (deep) with it.
func (t *Tree) wantWay(r resource, to []string, deep bool) {
	demand(!uri.Within(r.path, to) && !uri.Within(to, r.path), api.ErrSelf)
	t.wantNone(to)
	t.wantRoom(to)
	if !deep {
		return
	}
	for _, w := range t.walk(r, api.MaxSegs) {
		demand(len(w.path)-len(r.path)+len(to) <= api.MaxSegs, api.ErrLong)
	}
}

func parentOf(path []string) []string {
	return path[:len(path)-1]
}
