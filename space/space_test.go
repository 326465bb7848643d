package space

import (
	"bytes"
	"fmt"
	"math"
	"slices"
	"testing"

	"docket/api"
)

// pages are blocks in memory, which count what is asked of them, and refuse what they are told to.
type pages struct {
	blocks map[int][]byte
	reads  int
	writes int
	refuse api.Errno
}

func newPages() *pages { return &pages{blocks: map[int][]byte{}} }

func (p *pages) Read(b int) ([]byte, api.Errno) {
	p.reads++
	if p.refuse != api.OK {
		// Beside an error nobody should look at this.
		return sector(255, 255), p.refuse
	}
	return sector(p.blocks[b]...), api.OK
}

func (p *pages) Write(b int, data []byte) api.Errno {
	p.writes++
	if p.refuse != api.OK {
		return p.refuse
	}
	if len(data) > api.Sector {
		return api.ErrArg
	}
	p.blocks[b] = sector(data...)
	return api.OK
}

// pagesOf are pages with these bytes in block 0.
func pagesOf(data ...byte) *pages {
	p := newPages()
	p.blocks[0] = sector(data...)
	return p
}

// sector is data and the zeros behind it.
func sector(data ...byte) []byte {
	s := make([]byte, api.Sector)
	copy(s, data)
	return s
}

// mapOf is a map's block, by the words: bit b modulo 8 of byte b / 8.
func mapOf(taken ...int) []byte {
	s := sector()
	for _, b := range taken {
		s[b/8] |= 1 << (b % 8)
	}
	return s
}

func wantErr(t *testing.T, what string, got, want api.Errno) {
	t.Helper()
	if got != want {
		t.Errorf("%s: error %d, want %d", what, got, want)
	}
}

// wantBlock0 holds that block 0 tells of just these blocks.
func wantBlock0(t *testing.T, p *pages, taken ...int) {
	t.Helper()
	if !bytes.Equal(p.blocks[0], mapOf(taken...)) {
		t.Errorf("block 0 isn't the map of %v: %v..", taken, p.blocks[0][:20])
	}
	if len(p.blocks) != 1 {
		t.Errorf("%d blocks are written", len(p.blocks))
	}
}

// wantTaken holds that just these blocks are taken.
func wantTaken(t *testing.T, m *Map, blocks int, taken ...int) {
	t.Helper()
	for b := -9; b < blocks+9; b++ {
		if want := slices.Contains(taken, b); m.Has(b) != want {
			t.Errorf("Has(%d) = %v", b, !want)
		}
	}
	if m.Used() != len(taken) {
		t.Errorf("Used = %d, want %d", m.Used(), len(taken))
	}
}

func mustMake(t *testing.T, blocks int) *pages {
	t.Helper()
	p := newPages()
	wantErr(t, "Make", Make(p, blocks), api.OK)
	return p
}

func mustLoad(t *testing.T, p Pages, blocks int) *Map {
	t.Helper()
	m, err := Load(p, blocks)
	if err != api.OK || m == nil {
		t.Fatalf("Load(%d): error %d", blocks, err)
	}
	return m
}

// fresh is the map of a store that was just made.
func fresh(t *testing.T, blocks int) *Map {
	t.Helper()
	return mustLoad(t, mustMake(t, blocks), blocks)
}

func mustTake(t *testing.T, m *Map, want ...int) {
	t.Helper()
	for _, b := range want {
		got, err := m.Take()
		if err != api.OK || got != b {
			t.Fatalf("Take = %d, error %d, want %d", got, err, b)
		}
		if !m.Has(b) {
			t.Errorf("Take gave out %d, but it isn't taken", b)
		}
	}
}

func mustFree(t *testing.T, m *Map, blocks ...int) {
	t.Helper()
	for _, b := range blocks {
		wantErr(t, fmt.Sprintf("Free(%d)", b), m.Free(b), api.OK)
		if m.Has(b) {
			t.Errorf("Has(%d) behind Free", b)
		}
	}
}

func mustStore(t *testing.T, m *Map, p Pages) {
	t.Helper()
	wantErr(t, "Store", m.Store(p), api.OK)
}

func refuseLoad(t *testing.T, p Pages, blocks int, want api.Errno) {
	t.Helper()
	m, err := Load(p, blocks)
	wantErr(t, fmt.Sprintf("Load(%d)", blocks), err, want)
	if m != nil {
		t.Errorf("Load(%d): a map beside an error", blocks)
	}
}

func refuseTake(t *testing.T, m *Map, want api.Errno) {
	t.Helper()
	b, err := m.Take()
	wantErr(t, "Take", err, want)
	if b != 0 {
		t.Errorf("Take: block %d beside an error", b)
	}
}

// numbers are those from 0 on, n of them.
func numbers(n int) []int {
	all := make([]int, n)
	for i := range all {
		all[i] = i
	}
	return all
}

// The chapter's examples.
func TestExamples(t *testing.T) {
	p := newPages()
	wantErr(t, "Make", Make(p, 10), api.OK)
	if p.blocks[0][0] != 3 {
		t.Errorf("block 0 begins with the byte %d", p.blocks[0][0])
	}
	m := mustLoad(t, p, 10)
	wantTaken(t, m, 10, 0, 1)
	mustTake(t, m, 2, 3)
	mustFree(t, m, 2)
	mustTake(t, m, 2)
	wantErr(t, "Free(1)", m.Free(1), api.ErrArg)
	wantErr(t, "Free(9)", m.Free(9), api.ErrArg)
	mustStore(t, m, p)
	m = mustLoad(t, p, 10)
	wantTaken(t, m, 10, 0, 1, 2, 3)
	mustFree(t, m, 2)
	mustTake(t, m, 4)
	wantTaken(t, m, 10, 0, 1, 3, 4)
	mustStore(t, m, p)
	m = mustLoad(t, p, 10)
	mustTake(t, m, 2)
}

// sizes are stores of every sort, the least and the greatest among them.
var sizes = []int{2, 3, 7, 8, 9, 10, 15, 16, 17, 63, 64, 65, 300, 4087, 4088, 4089, 4095, 4096}

// P5.1: what Make lays, and that it writes block 0 alone, once.
func TestMake(t *testing.T) {
	for _, blocks := range sizes {
		for _, before := range [][]byte{nil, mapOf(), mapOf(0, 1, 2, 9), bytes.Repeat([]byte{255}, 512)} {
			p := pagesOf(before...)
			wantErr(t, "Make", Make(p, blocks), api.OK)
			wantBlock0(t, p, 0, 1)
			if p.writes != 1 {
				t.Errorf("Make writes %d times", p.writes)
			}
			wantTaken(t, mustLoad(t, p, blocks), blocks, 0, 1)
		}
	}
}

// misfits are numbers of blocks that no store has.
var misfits = []int{math.MinInt, math.MinInt32, -4096, -1, 0, 1, 4097, 4098, 8192, math.MaxInt32, math.MaxInt}

// P5.1: ErrArg, ahead of what the pages would answer; they aren't even asked.
func TestMakeAndLoadRefuse(t *testing.T) {
	for _, blocks := range misfits {
		for _, refuse := range []api.Errno{api.OK, api.ErrDead} {
			p := pagesOf(3)
			p.refuse = refuse
			wantErr(t, fmt.Sprintf("Make(%d)", blocks), Make(p, blocks), api.ErrArg)
			refuseLoad(t, p, blocks, api.ErrArg)
			if p.reads+p.writes != 0 {
				t.Errorf("%d blocks: the pages were asked", blocks)
			}
			wantBlock0(t, p, 0, 1)
		}
	}
	for _, blocks := range append(sizes, misfits...) {
		wantErr(t, "Make on nothing", Make(nil, blocks), api.ErrArg)
		refuseLoad(t, nil, blocks, api.ErrArg)
	}
}

// refusals are errors that pages may answer, such as no chapter names among them.
var refusals = []api.Errno{api.ErrArg, api.ErrNone, api.ErrBusy, api.ErrDead, api.ErrBad, api.ErrSpace, api.ErrLog, api.ErrLine, -1, 999, math.MinInt, math.MaxInt}

// P5.1, P5.3: an error of the pages comes as it is, ahead of what block 0 might tell.
func TestErrorsOfThePages(t *testing.T) {
	for _, refuse := range refusals {
		for _, block := range [][]byte{mapOf(), mapOf(0, 1), mapOf(0, 1, 5)} {
			p := pagesOf(block...)
			m := fresh(t, 10)
			mustTake(t, m, 2)
			p.refuse = refuse
			wantErr(t, "Make", Make(p, 10), refuse)
			refuseLoad(t, p, 10, refuse)
			refuseLoad(t, p, 2, refuse)
			wantErr(t, "Store", m.Store(p), refuse)
			if !bytes.Equal(p.blocks[0], block) {
				t.Errorf("block 0 has changed")
			}
			wantTaken(t, m, 10, 0, 1, 2)
			p.refuse = api.OK
			mustStore(t, m, p)
			wantBlock0(t, p, 0, 1, 2)
		}
	}
}

// P5.1: what a block 0 tells, bit by bit; Load reads it once, and writes nothing.
func TestLoad(t *testing.T) {
	for _, blocks := range sizes {
		for b := 2; b < blocks; b++ {
			if b > 70 && b < blocks-20 {
				continue
			}
			p := pagesOf(mapOf(0, 1, b)...)
			m := mustLoad(t, p, blocks)
			wantTaken(t, m, blocks, 0, 1, b)
			if p.reads != 1 || p.writes != 0 {
				t.Errorf("Load reads %d times and writes %d times", p.reads, p.writes)
			}
		}
		wantTaken(t, mustLoad(t, pagesOf(mapOf(numbers(blocks)...)...), blocks), blocks, numbers(blocks)...)
	}
	m := mustLoad(t, pagesOf(0b10000011, 0b01010101, 0, 0b00000100), 28)
	wantTaken(t, m, 28, 0, 1, 7, 8, 10, 12, 14, 26)
}

// P5.1: block 0 or 1 isn't taken, or one from blocks on is.
func TestLoadOfNoMap(t *testing.T) {
	for _, blocks := range sizes {
		all := numbers(blocks)
		for _, block := range [][]byte{
			mapOf(), mapOf(0), mapOf(1), mapOf(all[1:]...), mapOf(all[2:]...), mapOf(slices.Delete(numbers(blocks), 1, 2)...),
		} {
			refuseLoad(t, pagesOf(block...), blocks, api.ErrBad)
		}
		for b := blocks; b < 4096; b++ {
			refuseLoad(t, pagesOf(mapOf(0, 1, b)...), blocks, api.ErrBad)
		}
		if blocks < 4096 {
			refuseLoad(t, pagesOf(bytes.Repeat([]byte{255}, 512)...), blocks, api.ErrBad)
			refuseLoad(t, pagesOf(mapOf(append(all, blocks)...)...), blocks, api.ErrBad)
			refuseLoad(t, pagesOf(mapOf(append(all, 4095)...)...), blocks, api.ErrBad)
		}
	}
}

// raw are pages that answer just the bytes they have, however many those are.
type raw []byte

func (r raw) Read(int) ([]byte, api.Errno)   { return r, api.OK }
func (r raw) Write(int, []byte) api.Errno    { return api.ErrBusy }
func (r raw) with(at int, c byte) (more raw) { more = slices.Clone(r); more[at] = c; return more }

// P1 (rule 1): pages whose blocks are too short or too long.
func TestBlocksOfOddLengths(t *testing.T) {
	refuseLoad(t, raw(nil), 10, api.ErrBad)
	refuseLoad(t, raw{}, 10, api.ErrBad)
	refuseLoad(t, raw{1}, 10, api.ErrBad)
	wantTaken(t, mustLoad(t, raw{3}, 10), 10, 0, 1)
	wantTaken(t, mustLoad(t, raw{7, 2}, 10), 10, 0, 1, 2, 9)
	refuseLoad(t, raw{7, 4}, 10, api.ErrBad)
	long := raw(make([]byte, 2000)).with(0, 3)
	wantTaken(t, mustLoad(t, long, 4096), 4096, 0, 1)
	for _, at := range []int{2, 511, 512, 1999} {
		refuseLoad(t, long.with(at, 1), 10, api.ErrBad)
	}
	refuseLoad(t, long.with(512, 1), 4096, api.ErrBad)
	refuseLoad(t, long.with(1999, 128), 4096, api.ErrBad)
}

// P5.2: each block is given out once, the least first, until there is none; what is refused changes nothing.
func TestTakeAll(t *testing.T) {
	for _, blocks := range sizes {
		m := fresh(t, blocks)
		mustTake(t, m, numbers(blocks)[2:]...)
		for range 3 {
			refuseTake(t, m, api.ErrSpace)
		}
		if m.Used() != blocks {
			t.Errorf("Used = %d, want %d", m.Used(), blocks)
		}
		if blocks > 2 {
			mustFree(t, m, blocks-1)
			mustTake(t, m, blocks-1)
			refuseTake(t, m, api.ErrSpace)
		}
		p := newPages()
		mustStore(t, m, p)
		wantBlock0(t, p, numbers(blocks)...)
	}
}

// P5.2: the least block is taken that was given back, whatever the order, as long as none of them is old.
func TestTakeTheLeast(t *testing.T) {
	for _, blocks := range []int{40, 4096} {
		m := fresh(t, blocks)
		mustTake(t, m, numbers(blocks)[2:]...)
		mustFree(t, m, 31, 8, 39, 2, 7, 16, 15)
		mustTake(t, m, 2, 7, 8)
		mustFree(t, m, 3)
		mustTake(t, m, 3, 15, 16, 31, 39)
		refuseTake(t, m, api.ErrSpace)
	}
}

// P5.2: what Free refuses, and that it changes nothing.
func TestFreeRefuses(t *testing.T) {
	for _, blocks := range sizes {
		m := mustLoad(t, pagesOf(mapOf(numbers(min(blocks, 5))...)...), blocks)
		want := numbers(min(blocks, 5))
		if blocks > 5 {
			mustTake(t, m, 5)
			want = append(want, 5)
		}
		for _, b := range []int{math.MinInt, math.MinInt32, -4096, -8, -1, 0, 1, len(want), blocks - 1, blocks, blocks + 1, 4095, 4096, 5000, math.MaxInt32, math.MaxInt} {
			if b >= 2 && b < len(want) {
				continue
			}
			wantErr(t, fmt.Sprintf("Free(%d) of %d", b, blocks), m.Free(b), api.ErrArg)
		}
		wantTaken(t, m, blocks, want...)
	}
}

// P5.2: a block is given back once; a new one, and one that rests.
func TestFreeTwice(t *testing.T) {
	m := mustLoad(t, pagesOf(mapOf(0, 1, 3)...), 10)
	mustTake(t, m, 2, 4)
	mustFree(t, m, 2, 3)
	for range 2 {
		wantErr(t, "Free of a new one", m.Free(2), api.ErrArg)
		wantErr(t, "Free of one that rests", m.Free(3), api.ErrArg)
	}
	wantTaken(t, m, 10, 0, 1, 4)
	mustTake(t, m, 2, 5)
	mustFree(t, m, 2)
	mustTake(t, m, 2)
}

// P5.2: an old block rests: it isn't taken, but isn't given out, where nothing else is left, either.
func TestOldBlocksRest(t *testing.T) {
	for _, blocks := range sizes[1:] {
		m := mustLoad(t, pagesOf(mapOf(numbers(blocks)...)...), blocks)
		refuseTake(t, m, api.ErrSpace)
		mustFree(t, m, numbers(blocks)[2:]...)
		wantTaken(t, m, blocks, 0, 1)
		for range 2 {
			refuseTake(t, m, api.ErrSpace)
		}
		wantTaken(t, m, blocks, 0, 1)
	}
	m := mustLoad(t, pagesOf(mapOf(0, 1, 2, 4, 9)...), 10)
	mustFree(t, m, 9, 2)
	mustTake(t, m, 3, 5)
	mustFree(t, m, 4, 3)
	mustTake(t, m, 3, 6, 7, 8)
	refuseTake(t, m, api.ErrSpace)
	wantTaken(t, m, 10, 0, 1, 3, 5, 6, 7, 8)
}

// P5.2: what a Load finds decides what is old, not who took it.
func TestOldIsWhatWasLoaded(t *testing.T) {
	p := mustMake(t, 6)
	m := mustLoad(t, p, 6)
	mustTake(t, m, 2, 3)
	mustFree(t, m, 2)
	mustStore(t, m, p)
	mustTake(t, m, 2)
	next := mustLoad(t, p, 6)
	wantTaken(t, next, 6, 0, 1, 3)
	mustFree(t, next, 3)
	mustTake(t, next, 2, 4, 5)
	refuseTake(t, next, api.ErrSpace)
	mustStore(t, next, p)
	last := mustLoad(t, p, 6)
	mustTake(t, last, 3)
	refuseTake(t, last, api.ErrSpace)
}

// P5.3: Has at the ends, and where there is no block.
func TestHas(t *testing.T) {
	for _, blocks := range sizes {
		m := mustLoad(t, pagesOf(mapOf(numbers(blocks)...)...), blocks)
		for _, b := range []int{0, 1, blocks - 1} {
			if !m.Has(b) {
				t.Errorf("Has(%d) of %d = false", b, blocks)
			}
		}
		for _, b := range []int{math.MinInt, math.MinInt32, -4096, -8, -7, -1, blocks, blocks + 1, 4096, 4097, 5000, math.MaxInt32, math.MaxInt} {
			if m.Has(b) {
				t.Errorf("Has(%d) of %d = true", b, blocks)
			}
		}
	}
}

// P5.3: Store writes block 0 alone, once, and the Map goes on: old blocks stay old, and rest on; new ones stay new.
func TestStore(t *testing.T) {
	p := pagesOf(mapOf(0, 1, 2, 3)...)
	m := mustLoad(t, p, 8)
	mustFree(t, m, 2)
	mustTake(t, m, 4)
	wantBlock0(t, p, 0, 1, 2, 3)
	for range 3 {
		mustStore(t, m, p)
		wantBlock0(t, p, 0, 1, 3, 4)
		wantTaken(t, m, 8, 0, 1, 3, 4)
	}
	if p.reads != 1 || p.writes != 3 {
		t.Errorf("%d reads and %d writes", p.reads, p.writes)
	}
	mustFree(t, m, 3, 4)
	mustTake(t, m, 4, 5)
	mustStore(t, m, p)
	wantBlock0(t, p, 0, 1, 4, 5)
	mustTake(t, m, 6, 7)
	refuseTake(t, m, api.ErrSpace)
	wantBlock0(t, p, 0, 1, 4, 5)
}

// P5.3: Store writes where it is told to, not where the map was loaded; and tells what it is refused.
func TestStoreElsewhere(t *testing.T) {
	from, to := mustMake(t, 9), newPages()
	m := mustLoad(t, from, 9)
	mustTake(t, m, 2)
	wantErr(t, "Store nowhere", m.Store(nil), api.ErrArg)
	wantTaken(t, m, 9, 0, 1, 2)
	mustStore(t, m, to)
	wantBlock0(t, from, 0, 1)
	wantBlock0(t, to, 0, 1, 2)
	wantTaken(t, mustLoad(t, to, 9), 9, 0, 1, 2)
}

// Types: a nil *Map, at every call.
func TestNilMap(t *testing.T) {
	var m *Map
	refuseTake(t, m, api.ErrNone)
	for _, b := range []int{math.MinInt, -1, 0, 1, 2, 4096, math.MaxInt} {
		wantErr(t, "Free", m.Free(b), api.ErrNone)
		if m.Has(b) {
			t.Errorf("Has(%d) of nothing", b)
		}
	}
	if m.Used() != 0 {
		t.Errorf("Used of nothing = %d", m.Used())
	}
	p := newPages()
	wantErr(t, "Store", m.Store(p), api.ErrNone)
	wantErr(t, "Store", m.Store(nil), api.ErrNone)
	if p.writes != 0 {
		t.Errorf("a nil Map has written")
	}
}

// sharing are pages that hand out their own memory, keep what they are handed, and write over it when they are told to.
type sharing struct {
	block []byte
	got   [][]byte
}

func (s *sharing) Read(int) ([]byte, api.Errno) { return s.block, api.OK }

func (s *sharing) Write(_ int, data []byte) api.Errno {
	s.got = append(s.got, data)
	return api.OK
}

func (s *sharing) spoil() {
	for _, data := range append(s.got, s.block) {
		data = data[:cap(data)]
		for i := range data {
			data[i] = 0xEE
		}
	}
}

// P1 (rule 5): a Map shares nothing with its pages, and no two of its answers share anything.
func TestMemoryIsItsOwn(t *testing.T) {
	room := append(mapOf(0, 1, 2, 5), "behind it"...)
	before := bytes.Clone(room)
	s := &sharing{block: room[:512]}
	m := mustLoad(t, s, 9)
	mustTake(t, m, 3)
	mustFree(t, m, 5)
	mustStore(t, m, s)
	if !bytes.Equal(room, before) {
		t.Errorf("what was read has been changed")
	}
	mustTake(t, m, 4)
	mustStore(t, m, s)
	wantErr(t, "Make", Make(s, 9), api.OK)
	for i, want := range [][]byte{mapOf(0, 1, 2, 3), mapOf(0, 1, 2, 3, 4), mapOf(0, 1)} {
		if !bytes.Equal(s.got[i], want) {
			t.Errorf("what was written at %d has changed", i)
		}
	}
	s.spoil()
	wantTaken(t, m, 9, 0, 1, 2, 3, 4)
	mustTake(t, m, 6)
	mustStore(t, m, s)
	if !bytes.Equal(s.got[3], mapOf(0, 1, 2, 3, 4, 6)) {
		t.Errorf("the map has changed with its pages")
	}
	wantErr(t, "Make", Make(s, 9), api.OK)
	if !bytes.Equal(s.got[4], mapOf(0, 1)) {
		t.Errorf("Make has changed with its pages")
	}
}

// P1 (rule 6): two maps of one block know nothing of one another, and pages change none of them.
func TestMapsAreApart(t *testing.T) {
	p := pagesOf(mapOf(0, 1, 2)...)
	a, b := mustLoad(t, p, 6), mustLoad(t, p, 6)
	mustTake(t, a, 3, 4)
	mustFree(t, a, 2)
	wantTaken(t, b, 6, 0, 1, 2)
	mustTake(t, b, 3)
	mustFree(t, b, 3)
	wantTaken(t, a, 6, 0, 1, 3, 4)
	wantErr(t, "Make", Make(p, 6), api.OK)
	wantTaken(t, a, 6, 0, 1, 3, 4)
	wantTaken(t, b, 6, 0, 1, 2)
	mustStore(t, b, p)
	mustTake(t, a, 5)
	refuseTake(t, a, api.ErrSpace)
}
