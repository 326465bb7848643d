package tree

import (
	"strings"

	"docket/api"
)

// enter makes a path's collection count one member more, and tells the key of that one's record.
func (t *Tree) enter(path []string) string {
	parent := t.must(parentOf(path))
	parent.members++
	t.keep(parent)
	return entryKey(parent.id, path[len(path)-1])
}

// leave makes a path's collection count one member less.
func (t *Tree) leave(path []string) {
	parent := t.must(parentOf(path))
	parent.members--
	t.keep(parent)
}

// remove takes away all pairs of a resource, and of those below it.
func (t *Tree) remove(r resource) {
	for _, w := range t.walk(r, api.MaxSegs) {
		mark := propsKey(w.id)
		for _, pair := range t.scan(mark, w.props) {
			t.drop(mark + pair.Key)
			t.release(readNumber(pair.Value))
		}
		if w.kind == api.File {
			t.release(w.text)
		}
		t.drop(w.key)
	}
}

// graft lays a copy of a resource, its record at a key, and (deep) copies of those below it.
func (t *Tree) graft(r resource, key string, deep bool, n *numbers) {
	next := resource{key: key, record: r.record}
	next.id = n.newID()
	if r.kind == api.File {
		next.etag = n.newEtag()
		t.share(r.text)
	}
	for _, pair := range t.scan(propsKey(r.id), r.props) {
		t.put(propsKey(next.id)+pair.Key, pair.Value)
		t.share(readNumber(pair.Value))
	}
	var members []resource
	if deep {
		members = t.members(r)
	}
	next.members = len(members)
	t.keep(next)
	for _, m := range members {
		t.graft(m, entryKey(next.id, m.name()), deep, n)
	}
}

// keep lays a resource's record.
func (t *Tree) keep(r resource) {
	t.put(r.key, r.pack())
}

// numbers tells the numbers that were given out last.
func (t *Tree) numbers() numbers {
	packed, there := t.get(numbersKey)
	if !there {
		return numbers{ids: rootID}
	}
	return unpackNumbers(packed)
}

func (t *Tree) keepNumbers(n numbers) {
	t.put(numbersKey, n.pack())
}

func (t *Tree) get(key string) (string, bool) {
	value, there, err := t.tx.Get(key)
	heed(err)
	return value, there
}

func (t *Tree) put(key, value string) {
	heed(t.tx.Put(key, value))
}

func (t *Tree) drop(key string) {
	_, err := t.tx.Delete(key)
	heed(err)
}

// scan tells so many pairs whose keys begin with a mark, in order, without it.
func (t *Tree) scan(mark string, many int) []api.Pair {
	pairs, err := t.tx.Scan(mark, many)
	heed(err)
	for i := range pairs {
		rest, ok := strings.CutPrefix(pairs[i].Key, mark)
		demand(ok, api.ErrBad)
		pairs[i].Key = rest
	}
	return pairs
}
