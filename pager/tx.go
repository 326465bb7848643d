package pager

import (
	"maps"
	"slices"

	"docket/api"
)

// Tx is a transaction. It is open as long as its pager holds it to be.
type Tx struct {
	pager *Pager
	dirty map[int]block
}

// Read tells a block as the transaction has written it, or as it was last committed.
func (t *Tx) Read(b int) ([]byte, api.Errno) {
	if err := t.alive(); err != api.OK {
		return nil, err
	}
	if !t.pager.has(b) {
		return nil, api.ErrArg
	}
	if held, ok := t.dirty[b]; ok {
		return held[:], api.OK
	}
	return t.pager.read(b)
}

// Write lays data and zeros behind it on a block, in the transaction.
func (t *Tx) Write(b int, data []byte) api.Errno {
	if err := t.alive(); err != api.OK {
		return err
	}
	if !t.pager.has(b) || len(data) > api.Sector {
		return api.ErrArg
	}
	var held block
	copy(held[:], data)
	t.dirty[b] = held
	return api.OK
}

// Dirty tells how many blocks the transaction has written.
func (t *Tx) Dirty() int {
	if !t.isOpen() {
		return 0
	}
	return len(t.dirty)
}

// Commit makes what the transaction has written what is committed, and tells the commit's number.
func (t *Tx) Commit() (int64, api.Errno) {
	if err := t.alive(); err != api.OK {
		return 0, err
	}
	p := t.pager
	if len(t.dirty) == 0 {
		t.end()
		return p.Done(), api.OK
	}
	batch := t.batch()
	if !p.fits(batch) {
		t.end()
		return 0, api.ErrLog
	}
	number, err := p.commit(batch)
	if err != api.OK {
		return 0, err
	}
	maps.Copy(p.away, t.dirty)
	t.end()
	return number, api.OK
}

// Abort ends the transaction, and leaves nothing of it.
func (t *Tx) Abort() {
	if t.isOpen() {
		t.end()
	}
}

func (t *Tx) end() {
	t.pager.open = nil
	t.dirty = nil
}

func (t *Tx) isOpen() bool {
	return t != nil && t.pager != nil && t.pager.open == t
}

// alive looks whether the transaction may still be asked.
func (t *Tx) alive() api.Errno {
	if !t.isOpen() {
		return api.ErrNone
	}
	return t.pager.alive()
}

// batch tells what the transaction has written, as the log keeps it.
func (t *Tx) batch() []string {
	var batch []string
	for _, b := range slices.Sorted(maps.Keys(t.dirty)) {
		batch = append(batch, pack(b, t.dirty[b]))
	}
	return batch
}
