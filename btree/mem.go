package btree

import (
	"slices"

	"docket/api"
)

// Mem is a store of blocks in memory.
type Mem struct {
	blocks []*block // block b is at b - 1; nil: it isn't taken
}

type block struct {
	data [api.Sector]byte
	held bool
}

// NewMem makes a store of so many blocks.
func NewMem(blocks int) *Mem {
	return &Mem{blocks: make([]*block, min(max(blocks, 0), api.MaxSectors))}
}

// Read tells what block b holds.
func (m *Mem) Read(b int) ([]byte, api.Errno) {
	taken, err := m.find(b)
	if err != api.OK {
		return nil, err
	}
	return slices.Clone(taken.data[:]), api.OK
}

// Write lays data and zeros behind it on block b.
func (m *Mem) Write(b int, data []byte) api.Errno {
	taken, err := m.find(b)
	switch {
	case err != api.OK:
		return err
	case len(data) > api.Sector:
		return api.ErrArg
	case taken.held:
		return api.ErrBusy
	}
	clear(taken.data[copy(taken.data[:], data):])
	return api.OK
}

// Take takes the least block that isn't taken.
func (m *Mem) Take() (int, api.Errno) {
	if m == nil {
		return 0, api.ErrNone
	}
	i := slices.Index(m.blocks, nil)
	if i < 0 {
		return 0, api.ErrSpace
	}
	m.blocks[i] = &block{}
	return i + 1, api.OK
}

// Free gives block b back, unless it is held.
func (m *Mem) Free(b int) api.Errno {
	taken, err := m.find(b)
	if err == api.OK && !taken.held {
		m.blocks[b-1] = nil
	}
	return err
}

// Used tells how many blocks are taken.
func (m *Mem) Used() int {
	used := 0
	for range m.taken {
		used++
	}
	return used
}

// Hold holds the blocks that are taken now as they are, for good.
func (m *Mem) Hold() {
	for taken := range m.taken {
		taken.held = true
	}
}

// find finds block b, if it is taken.
func (m *Mem) find(b int) (*block, api.Errno) {
	switch {
	case m == nil:
		return nil, api.ErrNone
	case b < 1 || b > len(m.blocks) || m.blocks[b-1] == nil:
		return nil, api.ErrArg
	}
	return m.blocks[b-1], api.OK
}

// taken goes over the blocks that are taken.
func (m *Mem) taken(yield func(*block) bool) {
	if m == nil {
		return
	}
	for _, b := range m.blocks {
		if b != nil && !yield(b) {
			return
		}
	}
}
