package btree

import (
	"slices"

	"docket/api"
)

// change is a Put or a Delete under way. What lies on the tree's blocks stays as it is: each node on the way to the key is
// laid on a new block, and the old ones are given back when nothing is left that the store could refuse.
type change struct {
	tree  *Tree
	key   string
	edit  func(leaf *node) bool // what is done to the key's leaf; does that change it?
	taken []int
	old   []int // the blocks whose nodes were read: if anything changes, others lie in their stead
}

// change edits the leaf that a key is in, or would be, and tells whether that has changed it.
func (t *Tree) change(key string, edit func(leaf *node) bool) (bool, api.Errno) {
	c := change{tree: t, key: key, edit: edit}
	root, changed := 0, false
	met := attempt(func() { root, changed = c.run() })
	if met.err != api.OK {
		t.spoil(met)
		c.undo()
		return false, met.err
	}
	t.root = root
	return changed, api.OK
}

// spoil keeps the first error that the store has answered to a change.
func (t *Tree) spoil(met trouble) {
	if t.spoilt == api.OK && met.ofStore {
		t.spoilt = met.err
	}
}

// run does it all, and tells the root that the tree has then.
func (c *change) run() (int, bool) {
	top, changed := c.renew(c.tree.top())
	if !changed {
		return c.tree.root, false
	}
	root := c.plant(top)
	c.giveBack(c.old...)
	return root, true
}

// renew reads a node, and makes of it what it is to be once the leaf below is edited: it may have too many entries for a
// block, or too few.
func (c *change) renew(s spot) (node, bool) {
	n := c.read(s)
	if n.level == leafLevel {
		changed := c.edit(&n)
		return n, changed
	}
	i := n.lead(c.key)
	kid, changed := c.renew(n.kid(i))
	if !changed {
		return n, false
	}
	from, to := i, i+1
	if kid.wantsMore() {
		from, to = c.join(n, i, &kid)
	}
	n.entries = slices.Replace(n.entries, from, to, c.lay(kid)...)
	return n, true
}

// join gives a kid the entries of the one beside it, and tells which of the node's entries it then stands for.
func (c *change) join(n node, i int, kid *node) (from, to int) {
	if i > 0 {
		left := c.read(n.kid(i - 1))
		kid.entries = slices.Concat(left.entries, kid.entries)
		return i - 1, i + 1
	}
	right := c.read(n.kid(i + 1))
	kid.entries = slices.Concat(kid.entries, right.entries)
	return i, i + 2
}

// plant lays what is at the top of a tree, and as many nodes above it as it takes for one to be the root.
func (c *change) plant(n node) int {
	for n.level == leafLevel || len(n.entries) > 1 {
		kids := c.lay(n)
		if len(kids) == 0 {
			return 0
		}
		n = node{level: n.level + 1, entries: kids}
	}
	return n.kid(0).block
}

// lay lays a node on as many new blocks as it needs, and tells the entries that lead there.
func (c *change) lay(n node) []entry {
	var kids []entry
	for _, piece := range cut(n.entries) {
		b := c.take()
		heed(c.tree.store.Write(b, pack(n.level, piece)))
		kids = append(kids, entry{key: piece[0].key, value: packNumber(b)})
	}
	return kids
}

func (c *change) take() int {
	b, err := c.tree.store.Take()
	heed(err)
	c.taken = append(c.taken, b)
	if b < 1 {
		// Such a number would name a tree without keys, or none.
		heed(api.ErrBad)
	}
	return b
}

// read reads a node that is to be replaced, if anything changes.
func (c *change) read(s spot) node {
	if s.block != 0 {
		c.old = append(c.old, s.block)
	}
	return c.tree.read(s)
}

func (c *change) giveBack(blocks ...int) {
	for _, b := range blocks {
		heed(c.tree.store.Free(b))
	}
}

// undo gives back what was taken, each block whether or not the store has refused another.
func (c *change) undo() {
	for _, b := range c.taken {
		c.tree.spoil(attempt(func() { c.giveBack(b) }))
	}
}
