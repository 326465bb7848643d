package vault

import (
	"bytes"
	"math"
	"slices"

	"docket/api"
	"docket/blob"
	"docket/btree"
	"docket/pager"
	"docket/space"
)

// The vault's own blocks: the map of what is taken, and what names the tree. That one holds the signature, since without
// it a pager with a map, and nothing else, would be found to be a vault; and behind it the tree's root.
const (
	mapBlock  = 0
	rootBlock = 1
	signature = "docket's vault"
)

// numberSize is how many bytes a block's number takes.
const numberSize = 2

// blocks are a vault's, as a transaction sees them: the pager reads and writes them, the map takes them and gives them
// back. So they are a store, for the tree and for blobs.
type blocks struct {
	*pager.Tx
	*space.Map
}

// begin opens a transaction of the pager, and loads the map as it was last committed.
func begin(p *pager.Pager) (blocks, api.Errno) {
	tx, err := p.Begin()
	if err != api.OK {
		return blocks{}, err
	}
	taken, err := space.Load(tx, p.Blocks())
	if err != api.OK {
		tx.Abort()
		return blocks{}, err
	}
	return blocks{tx, taken}, api.OK
}

// lay lays an empty vault on a pager's zeros, durably.
func lay(p *pager.Pager) api.Errno {
	tx, err := p.Begin()
	if err != api.OK {
		return err
	}
	if err := space.Make(tx, p.Blocks()); err != api.OK {
		return err
	}
	if err := tx.Write(rootBlock, packRoot(0)); err != api.OK {
		return err
	}
	if _, err := tx.Commit(); err != api.OK {
		return err
	}
	return p.Sync()
}

// tree opens the tree that was last committed.
func (b blocks) tree() (*btree.Tree, api.Errno) {
	data, err := b.Read(rootBlock)
	if err != api.OK {
		return nil, err
	}
	root := readNumber(string(data[len(signature):][:numberSize]))
	if !bytes.HasPrefix(data, packRoot(root)) {
		return nil, api.ErrBad
	}
	return btree.Open(b, root), api.OK
}

// seal writes what names all that has been done: the map, and the tree's root.
func (b blocks) seal(root int) api.Errno {
	if err := b.Write(rootBlock, packRoot(root)); err != api.OK {
		return err
	}
	return b.Store(b.Tx)
}

// check looks whether just those of so many blocks are taken that are reached, each once.
func (b blocks) check(many int) api.Errno {
	reached, err := b.reached()
	if err != api.OK {
		return blame(err)
	}
	slices.Sort(reached)
	var taken []int
	for i := range many {
		if b.Has(i) {
			taken = append(taken, i)
		}
	}
	if !slices.Equal(reached, taken) {
		return api.ErrBad
	}
	return api.OK
}

// reached tells the vault's own blocks, the tree's, and those of all blobs; one that is reached twice comes twice.
func (b blocks) reached() ([]int, api.Errno) {
	tree, err := b.tree()
	if err != api.OK {
		return nil, err
	}
	reached, err := tree.Blocks()
	if err != api.OK {
		return nil, err
	}
	pairs, err := tree.Scan("", math.MaxInt)
	if err != api.OK {
		return nil, err
	}
	for _, pair := range pairs {
		value, ok := unpack(pair.Value)
		if !ok {
			return nil, api.ErrBad
		}
		more, err := blob.Blocks(b, value.head)
		if err != api.OK {
			return nil, err
		}
		reached = append(reached, more...)
	}
	return append(reached, mapBlock, rootBlock), api.OK
}

// blame tells what an error of the layers below is to whoever has asked the vault: what it asks of them is good, so if
// they take it for none, what has led there is bad.
func blame(err api.Errno) api.Errno {
	if err == api.ErrArg {
		return api.ErrBad
	}
	return err
}

// packRoot makes the block that names the tree.
func packRoot(root int) []byte {
	return []byte(signature + packNumber(root))
}

// packNumber makes a block's number a text, the lowest byte first.
func packNumber(b int) string {
	return string([]byte{byte(b), byte(b >> 8)})
}

// readNumber tells the number that was packed so.
func readNumber(packed string) int {
	return int(packed[0]) | int(packed[1])<<8
}
