package vault

import (
	"docket/api"
	"docket/btree"
)

// Tx is a transaction. It is open as long as its vault holds it to be.
type Tx struct {
	vault   *Vault
	blocks  blocks
	tree    *btree.Tree
	changed bool
	spoilt  api.Errno
}

// Get tells a key's value, and whether the key is there.
func (t *Tx) Get(key string) (string, bool, api.Errno) {
	if err := t.check(isGoodKey(key)); err != api.OK {
		return "", false, err
	}
	text, found, err := t.get(key)
	return text, found, t.heed(err)
}

// Put gives a key a value.
func (t *Tx) Put(key, value string) api.Errno {
	if err := t.check(isGoodKey(key) && len(value) <= api.MaxValue); err != api.OK {
		return err
	}
	return t.heed(t.put(key, value))
}

// Delete takes a key away, and tells whether it was there.
func (t *Tx) Delete(key string) (bool, api.Errno) {
	if err := t.check(isGoodKey(key)); err != api.OK {
		return false, err
	}
	was, err := t.remove(key)
	return was, t.heed(err)
}

// Scan tells the pairs whose keys aren't less than from, in order, at most most of them.
func (t *Tx) Scan(from string, most int) ([]api.Pair, api.Errno) {
	if err := t.check(true); err != api.OK {
		return nil, err
	}
	pairs, err := t.scan(from, most)
	return pairs, t.heed(err)
}

// Commit makes what the transaction has done what is committed, and tells the commit's number.
func (t *Tx) Commit() (int64, api.Errno) {
	if !t.isOpen() {
		return 0, api.ErrNone
	}
	defer t.end()
	if t.spoilt != api.OK {
		return 0, t.spoilt
	}
	// As long as nothing has changed no block is dirty, and the pager's commit is none.
	if t.changed {
		if err := t.blocks.seal(t.tree.Root()); err != api.OK {
			return 0, err
		}
	}
	number, err := t.blocks.Commit()
	if err != api.OK {
		return 0, err
	}
	return number - ownCommits, api.OK
}

// Abort ends the transaction, and leaves nothing of it.
func (t *Tx) Abort() {
	if t.isOpen() {
		t.end()
	}
}

func (t *Tx) end() {
	t.blocks.Abort()
	t.vault.open = nil
	*t = Tx{}
}

func (t *Tx) isOpen() bool {
	return t != nil && t.vault != nil && t.vault.open == t
}

// check looks whether the transaction may be asked what it is asked, with arguments that are good or not.
func (t *Tx) check(good bool) api.Errno {
	switch {
	case !t.isOpen():
		return api.ErrNone
	case t.spoilt != api.OK:
		return t.spoilt
	case !good:
		return api.ErrArg
	}
	// Of a tree without keys nothing is read, and the disk may be dead: so each call asks for some block.
	_, err := t.blocks.Read(rootBlock)
	return t.heed(err)
}

// heed hands on what the layers below have answered. An error spoils the transaction.
func (t *Tx) heed(err api.Errno) api.Errno {
	t.spoilt = blame(err)
	return t.spoilt
}

// find tells how a key's value lies in the tree.
func (t *Tx) find(key string) (stored, bool, api.Errno) {
	held, found, err := t.tree.Get(key)
	if err != api.OK || !found {
		return stored{}, false, err
	}
	s, ok := unpack(held)
	if !ok {
		return stored{}, false, api.ErrBad
	}
	return s, true, api.OK
}

func (t *Tx) get(key string) (string, bool, api.Errno) {
	s, found, err := t.find(key)
	if err != api.OK || !found {
		return "", false, err
	}
	text, err := t.blocks.text(s)
	return text, err == api.OK, err
}

func (t *Tx) put(key, text string) api.Errno {
	old, found, err := t.find(key)
	if err != api.OK {
		return err
	}
	if found {
		was, err := t.blocks.text(old)
		if err != api.OK || was == text {
			return err
		}
	}
	next, err := t.blocks.lay(text)
	if err != api.OK {
		return err
	}
	if err := t.tree.Put(key, next.pack()); err != api.OK {
		return err
	}
	t.changed = true
	return t.blocks.drop(old)
}

func (t *Tx) remove(key string) (bool, api.Errno) {
	old, found, err := t.find(key)
	if err != api.OK || !found {
		return false, err
	}
	if _, err := t.tree.Delete(key); err != api.OK {
		return false, err
	}
	t.changed = true
	err = t.blocks.drop(old)
	return err == api.OK, err
}

func (t *Tx) scan(from string, most int) ([]api.Pair, api.Errno) {
	pairs, err := t.tree.Scan(from, most)
	if err != api.OK {
		return nil, err
	}
	for i := range pairs {
		s, ok := unpack(pairs[i].Value)
		if !ok {
			return nil, api.ErrBad
		}
		if pairs[i].Value, err = t.blocks.text(s); err != api.OK {
			return nil, err
		}
	}
	return pairs, api.OK
}

func isGoodKey(key string) bool {
	return len(key) >= 1 && len(key) <= api.MaxKey
}
