package blob

import (
	"fmt"
	"maps"
	"math"
	"slices"
	"strings"
	"testing"

	"docket/api"
	"docket/btree"
)

// watched is a store in memory that counts what is asked of it, and keeps which blocks were read, and which were written.
type watched struct {
	*btree.Mem
	asked               int
	reads, writes, gave map[int]int // gave: by Take
}

func watch(blocks int) *watched {
	w := &watched{Mem: btree.NewMem(blocks)}
	w.forget()
	return w
}

func (w *watched) forget() {
	w.asked, w.reads, w.writes, w.gave = 0, map[int]int{}, map[int]int{}, map[int]int{}
}

func (w *watched) Read(b int) ([]byte, api.Errno) {
	w.asked++
	w.reads[b]++
	return w.Mem.Read(b)
}

func (w *watched) Write(b int, data []byte) api.Errno {
	w.asked++
	w.writes[b]++
	return w.Mem.Write(b, data)
}

func (w *watched) Take() (int, api.Errno) {
	w.asked++
	b, err := w.Mem.Take()
	w.gave[b]++
	return b, err
}

func (w *watched) Free(b int) api.Errno {
	w.asked++
	return w.Mem.Free(b)
}

func wantErr(t *testing.T, what string, got, want api.Errno) {
	t.Helper()
	if got != want {
		t.Errorf("%s: error %d, want %d", what, got, want)
	}
}

func wantUsed(t *testing.T, m *btree.Mem, want int) {
	t.Helper()
	if m.Used() != want {
		t.Errorf("Used = %d, want %d", m.Used(), want)
	}
}

func mustWrite(t *testing.T, s api.Store, data string) int {
	t.Helper()
	head, err := Write(s, data)
	if err != api.OK || (head > 0) != (data != "") {
		t.Fatalf("Write of %d bytes = %d, error %d", len(data), head, err)
	}
	return head
}

func mustClone(t *testing.T, s api.Store, head int) int {
	t.Helper()
	clone, err := Clone(s, head)
	if err != api.OK || (clone > 0) != (head > 0) {
		t.Fatalf("Clone(%d) = %d, error %d", head, clone, err)
	}
	return clone
}

func mustBlocks(t *testing.T, s api.Store, head int) []int {
	t.Helper()
	blocks, err := Blocks(s, head)
	if err != api.OK {
		t.Fatalf("Blocks(%d): error %d", head, err)
	}
	return blocks
}

func mustFree(t *testing.T, s api.Store, head int) {
	t.Helper()
	if err := Free(s, head); err != api.OK {
		t.Fatalf("Free(%d): error %d", head, err)
	}
}

func wantReadAt(t *testing.T, s api.Store, head, from, n int, want string) {
	t.Helper()
	if got, err := ReadAt(s, head, from, n); err != api.OK || got != want {
		t.Errorf("ReadAt(%d, %d, %d) = %d bytes, %.30q.., error %d, want %d, %.30q..", head, from, n, len(got), got, err, len(want), want)
	}
}

// blocksFor tells how many blocks a text of so many bytes has.
func blocksFor(size int) int {
	if size == 0 {
		return 0
	}
	return (size+511)/512 + 1
}

// wantBlob holds that a blob has this text, however it is asked, and its blocks.
func wantBlob(t *testing.T, s api.Store, head int, want string) {
	t.Helper()
	if size, err := Size(s, head); err != api.OK || size != len(want) {
		t.Errorf("Size(%d) = %d, error %d, want %d", head, size, err, len(want))
	}
	if text, err := Read(s, head); err != api.OK || text != want {
		t.Errorf("Read(%d) = %d bytes, %.30q.., error %d, want %d, %.30q..", head, len(text), text, err, len(want), want)
	}
	blocks := mustBlocks(t, s, head)
	if len(blocks) != blocksFor(len(want)) {
		t.Errorf("%d blocks for %d bytes", len(blocks), len(want))
	}
	if !slices.IsSorted(blocks) || len(slices.Compact(blocks)) != len(blocks) {
		t.Errorf("Blocks = %v: they don't rise", blocks)
	}
	if head != 0 && !slices.Contains(blocks, head) {
		t.Errorf("the head %d is none of the blocks %v", head, blocks)
	}
}

// refuseHead holds that each call that takes a head answers an error, and nothing beside it.
func refuseHead(t *testing.T, s api.Store, head int, want api.Errno) {
	t.Helper()
	size, err := Size(s, head)
	wantErr(t, "Size", err, want)
	text, err := Read(s, head)
	wantErr(t, "Read", err, want)
	some, err := ReadAt(s, head, 0, 1)
	wantErr(t, "ReadAt", err, want)
	none, err := ReadAt(s, head, 5, 0)
	wantErr(t, "ReadAt of nothing", err, want)
	far, err := ReadAt(s, head, math.MaxInt, math.MaxInt)
	wantErr(t, "ReadAt far behind", err, want)
	blocks, err := Blocks(s, head)
	wantErr(t, "Blocks", err, want)
	wantErr(t, "Free", Free(s, head), want)
	clone, err := Clone(s, head)
	wantErr(t, "Clone", err, want)
	if size != 0 || text+some+none+far != "" || len(blocks) != 0 || clone != 0 {
		t.Errorf("%d, %.30q, %v, %d beside errors", size, text+some+none+far, blocks, clone)
	}
}

// refuseWrite holds that a text isn't written, and that no head is told.
func refuseWrite(t *testing.T, s api.Store, data string, want api.Errno) {
	t.Helper()
	head, err := Write(s, data)
	wantErr(t, "Write", err, want)
	if head != 0 {
		t.Errorf("Write = %d beside an error", head)
	}
}

// textOf is a text of so many bytes, of all sorts, no two of whose blocks are alike.
func textOf(size, seed int) string {
	x, b := dice(seed), make([]byte, size)
	for i := range b {
		b[i] = byte(x.below(256))
	}
	return string(b)
}

// sizes are texts' lengths around all that could matter.
func sizes() []int {
	all := []int{2, 3, 63, 64, 100, 508, 509, 49152 - 1024, 49152/2 + 7}
	for blocks := range 97 {
		if blocks < 4 || blocks%13 == 0 || blocks > 94 {
			all = append(all, max(blocks*512-1, 0), blocks*512, min(blocks*512+1, api.MaxBlob))
		}
	}
	return all
}

// The chapter's examples.
func TestExamples(t *testing.T) {
	m := btree.NewMem(9)
	head := mustWrite(t, m, "abc")
	wantUsed(t, m, 2)
	wantBlob(t, m, head, "abc")
	wantReadAt(t, m, head, 1, 9, "bc")
	wantReadAt(t, m, head, 3, 1, "")
	if head := mustWrite(t, m, ""); head != 0 {
		t.Errorf("Write of nothing = %d", head)
	}
	wantBlob(t, m, 0, "")
	mustWrite(t, m, strings.Repeat("x", 512))
	wantUsed(t, m, 4)
	mustWrite(t, m, strings.Repeat("x", 513))
	wantUsed(t, m, 7)
	refuseWrite(t, m, strings.Repeat("x", 1000), api.ErrSpace)
	wantUsed(t, m, 7)
	refuseHead(t, m, -1, api.ErrArg)
}

// P7.1 to P7.3: texts of all lengths up to the limit: written, read, cloned, given back.
func TestSizes(t *testing.T) {
	for _, size := range sizes() {
		for what, data := range map[string]string{
			"bytes of all sorts": textOf(size, size),
			"zeros":              strings.Repeat("\x00", size),
			"ones":               strings.Repeat("\xff", size),
		} {
			m := btree.NewMem(300)
			other := mustWrite(t, m, "another")
			head := mustWrite(t, m, data)
			wantUsed(t, m, 2+blocksFor(size))
			wantBlob(t, m, head, data)
			clone := mustClone(t, m, head)
			wantUsed(t, m, 2+2*blocksFor(size))
			wantBlob(t, m, clone, data)
			mustFree(t, m, head)
			wantUsed(t, m, 2+blocksFor(size))
			wantBlob(t, m, clone, data)
			mustFree(t, m, clone)
			wantUsed(t, m, 2)
			wantBlob(t, m, other, "another")
			if t.Failed() {
				t.Fatalf("with %d bytes: %s", size, what)
			}
		}
	}
}

// P7.1: a text that is too long, and that no block is asked for for it, nor for one without bytes.
func TestTooLong(t *testing.T) {
	w := watch(4096)
	for _, size := range []int{api.MaxBlob + 1, api.MaxBlob + 512, api.MaxBlob * 2, 1 << 16, 1<<16 + 1, 1 << 20} {
		refuseWrite(t, w, strings.Repeat("x", size), api.ErrLong)
	}
	mustWrite(t, w, "")
	wantBlob(t, w, 0, "")
	mustClone(t, w, 0)
	mustFree(t, w, 0)
	if w.asked != 0 {
		t.Errorf("the store was asked for blobs without blocks")
	}
}

// P7.2: parts of texts, from anywhere on, as long as anything.
func TestReadAt(t *testing.T) {
	for _, size := range []int{0, 1, 2, 511, 512, 513, 1024, 1300, 5000, api.MaxBlob} {
		m, data := btree.NewMem(300), textOf(size, size)
		head := mustWrite(t, m, data)
		numbers := []int{0, 1, 2, 511, 512, 513, 1023, 1024, 1025, size / 2, size - 513, size - 512, size - 1, size, size + 1, size * 2, 1 << 16, 1<<32 + 1, math.MaxInt - 1, math.MaxInt}
		for _, from := range numbers {
			for _, n := range numbers {
				if from < 0 || n < 0 {
					continue
				}
				rest := data[min(from, size):]
				wantReadAt(t, m, head, from, n, rest[:min(n, len(rest))])
			}
		}
		for _, below := range []int{-1, -512, math.MinInt} {
			for _, more := range []int{0, 1, size, math.MaxInt, -1} {
				refuseReadAt(t, m, head, below, more, api.ErrArg)
				refuseReadAt(t, m, head, more, below, api.ErrArg)
			}
		}
	}
}

func refuseReadAt(t *testing.T, s api.Store, head, from, n int, want api.Errno) {
	t.Helper()
	text, err := ReadAt(s, head, from, n)
	wantErr(t, fmt.Sprintf("ReadAt(%d, %d, %d)", head, from, n), err, want)
	if text != "" {
		t.Errorf("ReadAt(%d, %d, %d) = %.30q beside an error", head, from, n, text)
	}
}

// Words: what is read in part is not read as a whole.
func TestReadsNoMore(t *testing.T) {
	w := watch(300)
	head := mustWrite(t, w, textOf(api.MaxBlob, 1))
	for _, c := range []struct{ from, n, blocks int }{
		{0, 0, 0}, {0, 1, 1}, {0, 512, 1}, {0, 513, 2}, {511, 1, 1}, {511, 2, 2}, {512, 0, 0}, {512, 512, 1}, {700, 1000, 3},
		{api.MaxBlob - 1, 1, 1}, {api.MaxBlob - 1, math.MaxInt, 1}, {api.MaxBlob, 1, 0}, {math.MaxInt, math.MaxInt, 0},
	} {
		w.forget()
		ReadAt(w, head, c.from, c.n)
		if w.asked != c.blocks+1 || w.reads[head] != 1 || len(w.reads) != c.blocks+1 {
			t.Errorf("ReadAt(%d, %d) has read %v", c.from, c.n, w.reads)
		}
	}
	for range 2 {
		w.forget()
		Size(w, head)
		Blocks(w, head)
		if w.asked != 2 || w.reads[head] != 2 {
			t.Errorf("Size and Blocks have read %v", w.reads)
		}
	}
}

// The order of errors: no store, then a head or a number below 0 or a text too long, and then only is the store asked.
func TestOrderOfErrors(t *testing.T) {
	long := strings.Repeat("x", api.MaxBlob+1)
	for _, data := range []string{"", "x", long} {
		refuseWrite(t, nil, data, api.ErrNone)
	}
	w := watch(0)
	for _, head := range []int{math.MinInt, -4096, -1, 0, 1, math.MaxInt} {
		refuseHead(t, nil, head, api.ErrNone)
		refuseReadAt(t, nil, head, -1, 1, api.ErrNone)
		refuseReadAt(t, nil, head, 1, -1, api.ErrNone)
		if head < 0 {
			refuseHead(t, w, head, api.ErrArg)
		}
		refuseReadAt(t, w, head, -1, 1, api.ErrArg)
		refuseReadAt(t, w, head, 1, -1, api.ErrArg)
	}
	refuseWrite(t, w, long, api.ErrLong)
	if w.asked != 0 {
		t.Errorf("the store was asked, though the arguments say enough")
	}
	refuseWrite(t, w, "x", api.ErrSpace)
	refuseHead(t, w, 1, api.ErrArg) // the store's own
	var none *btree.Mem
	refuseWrite(t, none, "x", api.ErrNone)
	refuseHead(t, none, 1, api.ErrNone)
}

// P7.1, P7.3: no room, at each number of free blocks: nothing is taken, and nothing is changed.
func TestNoRoom(t *testing.T) {
	data, kept := textOf(6000, 1), textOf(5700, 2)
	needs := blocksFor(len(data))
	for free := range needs + 2 {
		m := btree.NewMem(2*needs + free)
		head, other := mustWrite(t, m, data), mustWrite(t, m, kept)
		used := m.Used()
		if left := 2*needs + free - used; left >= needs {
			wantBlob(t, m, mustClone(t, m, head), data)
			wantUsed(t, m, used+needs)
			continue
		}
		for range 2 {
			refuseWrite(t, m, data, api.ErrSpace)
			clone, err := Clone(m, head)
			wantErr(t, "Clone", err, api.ErrSpace)
			if clone != 0 {
				t.Errorf("Clone = %d beside an error", clone)
			}
			wantUsed(t, m, used)
		}
		wantBlob(t, m, head, data)
		wantBlob(t, m, other, kept)
	}
}

// P7.1, P7.3: only blocks that the call itself has taken are written, each once; what is held is read and given back.
func TestWritesItsOwnBlocks(t *testing.T) {
	w := watch(300)
	texts := map[int]string{}
	for _, size := range []int{1, 512, 2000, 30000} {
		w.forget()
		head := mustWrite(t, w, textOf(size, size))
		texts[head] = textOf(size, size)
		if !maps.Equal(w.writes, w.gave) || len(w.gave) != blocksFor(size) {
			t.Errorf("taken %v, written %v", w.gave, w.writes)
		}
		w.forget()
		clone := mustClone(t, w, head)
		texts[clone] = texts[head]
		if !maps.Equal(w.writes, w.gave) || len(w.gave) != blocksFor(size) || w.gave[clone] != 1 {
			t.Errorf("taken %v, written %v", w.gave, w.writes)
		}
		w.Hold()
	}
	used := w.Used()
	for head, text := range texts {
		wantBlob(t, w, head, text)
		w.forget()
		mustFree(t, w, head)
		if len(w.writes)+len(w.gave) != 0 {
			t.Errorf("Free has taken %v, written %v", w.gave, w.writes)
		}
		wantBlob(t, w, head, text)
	}
	wantUsed(t, w.Mem, used)
}

// P7.3: what was given back is no blob any more, and its blocks serve others.
func TestFree(t *testing.T) {
	m := btree.NewMem(11)
	for i := range 40 {
		data := textOf(i*128%5121, i)
		head := mustWrite(t, m, data)
		wantBlob(t, m, head, data)
		mustFree(t, m, head)
		wantUsed(t, m, 0)
		if head != 0 {
			refuseHead(t, m, head, api.ErrArg)
		}
	}
}
