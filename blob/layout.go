package blob

import (
	"bytes"
	"slices"
	"strings"

	"docket/api"
	"docket/crc"
)

// A head's block tells the blob's size and where its parts are, each as the step from the block ahead of it: the head is
// the least of a blob's blocks, and the parts rise. So no block is met twice, and a step takes few bytes even where the
// numbers are great. Zeros fill the block.
//
// The sum ahead of all that is of the head's number, too: so a text that is a copy of some head's block is no blob.
const (
	sumSize    = 4
	sizeSize   = 2
	stepSize   = 5
	numberSize = 8
	sizeAt     = sumSize
	stepsAt    = sizeAt + sizeSize
)

// blob is a text on a store's blocks. Without bytes it has none, and its head is 0.
type blob struct {
	store api.Store
	head  int
	size  int
	parts []int // the blocks that its bytes fill, in their order; zeros fill the last one
}

// find finds the blob that lies at a head.
func find(s api.Store, head int) blob {
	b := blob{store: s, head: head}
	if head != 0 && !b.unpack(read(s, head)) {
		heed(api.ErrBad)
	}
	return b
}

// partsOf tells how many blocks so many bytes fill.
func partsOf(size int) int {
	return (size + api.Sector - 1) / api.Sector
}

// pack makes the head's block, if there is one that tells all.
func (b *blob) pack() ([]byte, bool) {
	told := appendNumber(make([]byte, 0, api.Sector), uint64(b.size), sizeSize)
	last := b.head
	for _, part := range b.parts {
		step := uint64(part) - uint64(last)
		if part <= last || step>>(8*stepSize) != 0 {
			return nil, false
		}
		told = appendNumber(told, step, stepSize)
		last = part
	}
	told = told[:api.Sector-sumSize]
	sum := crc.Update(crc.Sum(appendNumber(nil, uint64(b.head), numberSize)), told)
	return append(appendNumber(nil, uint64(sum), sumSize), told...), b.head > 0
}

// unpack reads off the head's block what it tells, if it is one: just what pack makes of that.
func (b *blob) unpack(data []byte) bool {
	b.size = int(readNumber(data[sizeAt:stepsAt]))
	if b.size < 1 || b.size > api.MaxBlob {
		return false
	}
	steps := data[stepsAt:]
	last := b.head
	for range partsOf(b.size) {
		last += int(readNumber(steps[:stepSize]))
		b.parts = append(b.parts, last)
		steps = steps[stepSize:]
	}
	packed, ok := b.pack()
	return ok && bytes.Equal(packed, data)
}

func (b blob) blocks() []int {
	if b.head == 0 {
		return nil
	}
	return append([]int{b.head}, b.parts...)
}

// text tells the bytes from one number up to another; other parts aren't read.
func (b blob) text(from, to int) string {
	var text strings.Builder
	for from < to {
		data := read(b.store, b.parts[from/api.Sector])[from%api.Sector:]
		data = data[:min(len(data), to-from)]
		text.Write(data)
		from += len(data)
	}
	return text.String()
}

// free gives the blocks back. All are looked for ahead of that, since a call that is refused should have changed nothing;
// and the head is the last to go, since it alone tells of those that a store may yet refuse.
func (b blob) free() {
	for _, part := range b.parts {
		read(b.store, part)
	}
	for _, block := range slices.Backward(b.blocks()) {
		heed(b.store.Free(block))
	}
}

// lay lays a text on new blocks, and tells its head.
func lay(s api.Store, data string) int {
	if data == "" {
		return 0
	}
	var taken []int
	err := attempt(func() {
		for range 1 + partsOf(len(data)) {
			block, err := s.Take()
			heed(err)
			taken = append(taken, block)
		}
		slices.Sort(taken)
		b := blob{store: s, head: taken[0], size: len(data), parts: taken[1:]}
		b.fill(data)
	})
	if err != api.OK {
		giveBack(s, taken)
		heed(err)
	}
	return taken[0]
}

// fill lays a text, and what the head tells of it, on blocks that are there. Blocks of which no head can tell are as bad
// as none: numbers below 1, one that comes twice, or such as lie too far from one another.
func (b blob) fill(data string) {
	packed, ok := b.pack()
	if !ok {
		heed(api.ErrBad)
	}
	heed(b.store.Write(b.head, packed))
	for i, part := range b.parts {
		block := make([]byte, api.Sector)
		copy(block, data[i*api.Sector:])
		heed(b.store.Write(part, block))
	}
}

// giveBack gives back what a text that couldn't be laid has taken, each block whether or not the store refuses another.
func giveBack(s api.Store, taken []int) {
	for _, block := range taken {
		attempt(func() { s.Free(block) })
	}
}

// read reads a block as it is laid by this package: a whole one.
func read(s api.Store, block int) []byte {
	data, err := s.Read(block)
	heed(err)
	if len(data) != api.Sector {
		heed(api.ErrBad)
	}
	return data
}

// appendNumber lays a number behind data, in so many bytes, the lowest first.
func appendNumber(data []byte, x uint64, size int) []byte {
	for range size {
		data = append(data, byte(x))
		x >>= 8
	}
	return data
}

// readNumber tells the number that was laid so.
func readNumber(data []byte) uint64 {
	x := uint64(0)
	for i, c := range data {
		x |= uint64(c) << (8 * i)
	}
	return x
}
