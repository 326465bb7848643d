package blob

import (
	"math"
	"slices"
	"strings"
	"testing"

	"docket/api"
	"docket/btree"
	"docket/crc"
)

// stored is a store with these blocks, from 1 on.
func stored(t *testing.T, blocks ...string) *btree.Mem {
	t.Helper()
	m := btree.NewMem(99)
	for i, data := range blocks {
		b, err := m.Take()
		if err != api.OK || b != i+1 {
			t.Fatalf("Take = %d, error %d", b, err)
		}
		wantErr(t, "Write", m.Write(b, []byte(data)), api.OK)
	}
	return m
}

// blockOf is what a block of a store holds.
func blockOf(t *testing.T, s api.Store, b int) string {
	t.Helper()
	data, err := s.Read(b)
	wantErr(t, "Read", err, api.OK)
	return string(data)
}

// told is a head's block with a sum that is right, if it lies on that block.
func told(head, size int, steps ...uint64) string {
	data := appendNumber(nil, uint64(size), 2)
	for _, step := range steps {
		data = appendNumber(data, step, 5)
	}
	data = append(data, make([]byte, max(508-len(data), 0))...)[:508]
	return summed(head, string(data))
}

func summed(head int, rest string) string {
	sum := crc.Sum([]byte(string(appendNumber(nil, uint64(head), 8)) + rest))
	return string(appendNumber(nil, uint64(sum), 4)) + rest
}

// What the tests of this file lay on blocks is a blob indeed, but where they say otherwise.
func TestSoundHead(t *testing.T) {
	text := textOf(1500, 1)
	m := stored(t, "", told(2, 1500, 1, 2, 1), text[:512], "", text[512:1024], text[1024:])
	wantBlob(t, m, 2, text)
	if blocks := mustBlocks(t, m, 2); !slices.Equal(blocks, []int{2, 3, 5, 6}) {
		t.Errorf("Blocks = %v", blocks)
	}
	mustFree(t, m, 2)
	wantUsed(t, m, 2)
}

// Errors: blocks that hold something, but no blob's head.
func TestNoHead(t *testing.T) {
	ones := slices.Repeat([]uint64{1}, 101) // as many as there is room for
	for what, data := range map[string]string{
		"zeros":                    "",
		"a text":                   "a text that is no blob, but somewhat longer than a few bytes",
		"ones":                     strings.Repeat("\xff", 512),
		"no size":                  told(1, 0),
		"no size, but a part":      told(1, 0, 1),
		"a size that is too great": told(1, api.MaxBlob+1, ones[:97]...),
		"as much as has room":      told(1, 101*512, ones...),
		"the greatest size":        told(1, 65535, ones...),
		"no part":                  told(1, 1),
		"a part too few":           told(1, 1025, 1, 1),
		"a part too many":          told(1, 1024, 1, 1, 1),
		"a part that is the head":  told(1, 512, 0),
		"a part twice":             told(1, 1025, 1, 1, 0),
		"another block's head":     told(2, 100, 1),
		"no right sum":             "x" + told(1, 100, 1)[1:],
		"something at the end":     summed(1, told(1, 100, 1)[4:511]+"x"),
	} {
		m := stored(t, data, textOf(512, 1), textOf(512, 2), textOf(512, 3))
		refuseHead(t, m, 1, api.ErrBad)
		wantUsed(t, m, 4)
		if t.Failed() {
			t.Fatalf("with %s", what)
		}
	}
}

// Errors: random bytes are no head, with a right sum, too, nor do they do any harm.
func TestRandomHeads(t *testing.T) {
	for seed := range 3000 {
		m := stored(t, textOf(512, seed), textOf(512, seed+1))
		refuseHead(t, m, 1, api.ErrBad)
		size := 1 + seed%600
		m = stored(t, summed(1, string(appendNumber(nil, uint64(size), 2))+textOf(506, seed)), "x")
		refuseHead(t, m, 1, api.ErrBad)
		wantUsed(t, m, 2)
		if t.Failed() {
			t.Fatalf("with the seed %d", seed)
		}
	}
}

// Errors: a head of which a single bit is another one is none.
func TestEachBit(t *testing.T) {
	for _, size := range []int{1, 700, api.MaxBlob} {
		m := btree.NewMem(120)
		head := mustWrite(t, m, textOf(size, 1))
		good := blockOf(t, m, head)
		for bit := range 4096 {
			data := []byte(good)
			data[bit/8] ^= 1 << (bit % 8)
			wantErr(t, "Write", m.Write(head, data), api.OK)
			refuseHead(t, m, head, api.ErrBad)
		}
		wantErr(t, "Write", m.Write(head, []byte(good)), api.OK)
		wantBlob(t, m, head, textOf(size, 1))
	}
}

// Errors: no other block of a blob is a head, not even one whose text is a head's block.
func TestOnlyHeads(t *testing.T) {
	m := btree.NewMem(300)
	for _, data := range []string{"abc", textOf(3000, 1), strings.Repeat("\x00", 2000), strings.Repeat("\xff", 2000), strings.Repeat("\x01\x00", 1000)} {
		head := mustWrite(t, m, data)
		block := blockOf(t, m, head)
		copied := mustWrite(t, m, block+block)
		for _, b := range append(mustBlocks(t, m, head), mustBlocks(t, m, copied)...) {
			if b != head && b != copied {
				refuseHead(t, m, b, api.ErrBad)
			}
		}
		wantBlob(t, m, head, data)
		wantBlob(t, m, copied, block+block)
	}
}

// Errors: a part that isn't there any more: whoever reads it is told, and Free gives nothing back.
func TestLostPart(t *testing.T) {
	data := textOf(5*512, 1)
	for lost := range 5 {
		m := btree.NewMem(20)
		head := mustWrite(t, m, data)
		blocks := mustBlocks(t, m, head)
		wantErr(t, "Free", m.Free(slices.DeleteFunc(slices.Clone(blocks), func(b int) bool { return b == head })[lost]), api.OK)
		for range 2 {
			text, err := Read(m, head)
			wantErr(t, "Read", err, api.ErrArg)
			clone, err := Clone(m, head)
			wantErr(t, "Clone", err, api.ErrArg)
			if text != "" || clone != 0 {
				t.Errorf("%.30q, %d beside errors", text, clone)
			}
			wantErr(t, "Free", Free(m, head), api.ErrArg)
			wantUsed(t, m, 5)
		}
		for part := range 5 {
			if part == lost {
				refuseReadAt(t, m, head, part*512+511, 1, api.ErrArg)
				refuseReadAt(t, m, head, part*512+511, 2, api.ErrArg)
			} else {
				wantReadAt(t, m, head, part*512, 512, data[part*512:part*512+512])
			}
		}
		if now := mustBlocks(t, m, head); !slices.Equal(now, blocks) {
			t.Errorf("Blocks = %v, want %v", now, blocks)
		}
	}
}

// short is a store one of whose blocks is told with another length.
type short struct {
	*btree.Mem
	block, size int
}

func (s *short) Read(b int) ([]byte, api.Errno) {
	data, err := s.Mem.Read(b)
	if b != s.block || err != api.OK {
		return data, err
	}
	return append(data, make([]byte, 600)...)[:s.size], api.OK
}

// Errors: what the store tells isn't a block.
func TestNoWholeBlocks(t *testing.T) {
	for _, size := range []int{0, 1, 3, 4, 5, 6, 10, 11, 100, 511, 513, 1024} {
		s := &short{Mem: btree.NewMem(9)}
		head := mustWrite(t, s, "abc")
		s.block, s.size = head, size
		refuseHead(t, s, head, api.ErrBad)
		for _, s.block = range mustBlocks(t, s.Mem, head) {
			if s.block == head {
				continue
			}
			for n := range 3 {
				refuseReadAt(t, s, head, 2-n, 1+n, api.ErrBad)
			}
			wantErr(t, "Free", Free(s, head), api.ErrBad)
			wantUsed(t, s.Mem, 2)
		}
	}
}

// given is a store that gives out these numbers, as if they were blocks, and notes what comes back.
type given struct {
	*btree.Mem
	numbers []int
	data    map[int][]byte
	freed   []int
}

func give(numbers ...int) *given {
	return &given{numbers: numbers, data: map[int][]byte{}}
}

func (g *given) Take() (int, api.Errno) {
	if len(g.numbers) == 0 {
		return 0, api.ErrSpace
	}
	b := g.numbers[0]
	g.numbers = g.numbers[1:]
	return b, api.OK
}

func (g *given) Write(b int, data []byte) api.Errno {
	g.data[b] = slices.Clone(data)
	return api.OK
}

func (g *given) Read(b int) ([]byte, api.Errno) {
	if g.data[b] == nil {
		return nil, api.ErrArg
	}
	return slices.Clone(g.data[b]), api.OK
}

func (g *given) Free(b int) api.Errno {
	g.freed = append(g.freed, b)
	return api.OK
}

// P7.1: blocks in any order, and with great numbers.
func TestNumbers(t *testing.T) {
	data := textOf(1400, 1)
	for _, numbers := range [][]int{
		{1, 2, 3, 4},
		{9, 7, 5, 3},
		{4000, 1, 4095, 2},
		{math.MaxInt, math.MaxInt - 9, math.MaxInt - 5, math.MaxInt - 7},
		{1<<40 + 5, 5, 7, 8},
		{5, 6, 4 + 1<<40, 3 + 2<<40},
	} {
		g := give(numbers...)
		head := mustWrite(t, g, data)
		wantBlob(t, g, head, data)
		slices.Sort(numbers)
		if blocks := mustBlocks(t, g, head); !slices.Equal(blocks, numbers) {
			t.Errorf("Blocks = %v, want %v", blocks, numbers)
		}
		mustFree(t, g, head)
		if slices.Sort(g.freed); !slices.Equal(g.freed, numbers) {
			t.Errorf("given back %v, want %v", g.freed, numbers)
		}
	}
}

// P1 (rule 1): numbers of which no blob can be made are given back.
func TestNumbersOfNoBlob(t *testing.T) {
	for _, numbers := range [][]int{
		{0, 1, 2, 3},
		{3, 2, 1, 0},
		{-1, 4, 5, 6},
		{4, 5, 6, math.MinInt},
		{4, 5, 6, 4},
		{4, 4, 4, 4},
		{1, 2, 3, 3 + 1<<40},
		{math.MaxInt, 2, 3, 1},
	} {
		g := give(numbers...)
		refuseWrite(t, g, textOf(1400, 1), api.ErrBad)
		slices.Sort(numbers)
		if slices.Sort(g.freed); !slices.Equal(g.freed, numbers) || len(g.data) != 0 {
			t.Errorf("given back %v, want %v; %d blocks written", g.freed, numbers, len(g.data))
		}
	}
}
