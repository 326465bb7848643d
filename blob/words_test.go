package blob

import (
	"maps"
	"slices"
	"testing"

	"docket/api"
	"docket/btree"
	"docket/disk"
	"docket/pager"
	"docket/space"
)

// dice throws the same numbers in each run.
type dice uint64

func (x *dice) below(n int) int {
	*x = *x*6364136223846793005 + 1442695040888963407
	return int(uint64(*x) >> 33 % uint64(n))
}

// walk does steps to blobs on a store, and keeps beside them what their texts are.
type walk struct {
	dice
	store api.Store
	room  int
	texts map[int]string
	used  int
}

func (w *walk) size() int {
	switch w.below(8) {
	case 0:
		return w.below(3) * 512
	case 1:
		return 1 + w.below(2)
	case 2:
		return w.below(api.MaxBlob + 1)
	}
	return w.below(4000)
}

func (w *walk) step(t *testing.T) {
	t.Helper()
	heads := slices.Sorted(maps.Keys(w.texts))
	switch what := w.below(4); {
	case what < 2 || len(heads) == 0:
		data := textOf(w.size(), w.below(99999))
		head, err := Write(w.store, data)
		w.added(t, head, err, data)
	case what == 2:
		from := heads[w.below(len(heads))]
		head, err := Clone(w.store, from)
		w.added(t, head, err, w.texts[from])
	default:
		head := heads[w.below(len(heads))]
		mustFree(t, w.store, head)
		w.used -= blocksFor(len(w.texts[head]))
		delete(w.texts, head)
	}
}

// added notes a new blob, if there was room for it.
func (w *walk) added(t *testing.T, head int, err api.Errno, data string) {
	t.Helper()
	if w.used+blocksFor(len(data)) > w.room {
		if err != api.ErrSpace || head != 0 {
			t.Fatalf("a blob of %d bytes without room for it: %d, error %d", len(data), head, err)
		}
		return
	}
	if _, there := w.texts[head]; there || err != api.OK || (head == 0) != (data == "") {
		t.Fatalf("a blob of %d bytes: %d, error %d", len(data), head, err)
	}
	if head != 0 {
		w.texts[head] = data
		w.used += blocksFor(len(data))
	}
}

// wantAll holds that each blob is what it was, on blocks of its own.
func (w *walk) wantAll(t *testing.T) {
	t.Helper()
	blocks := map[int]int{}
	for head, text := range w.texts {
		wantBlob(t, w.store, head, text)
		for _, b := range mustBlocks(t, w.store, head) {
			blocks[b]++
		}
		from, n := w.below(len(text)+1), w.below(len(text)+1)
		wantReadAt(t, w.store, head, from, n, text[from:min(from+n, len(text))])
	}
	if len(blocks) != w.used {
		t.Errorf("the blobs have %d blocks, want %d", len(blocks), w.used)
	}
}

// P7.1 to P7.3: long walks of all calls, on stores with much room and with little.
func TestWalks(t *testing.T) {
	for seed := range 40 {
		m := btree.NewMem([]int{20, 60, 150, 600}[seed%4])
		w := &walk{dice: dice(seed), store: m, room: []int{20, 60, 150, 600}[seed%4], texts: map[int]string{}}
		for i := range 120 {
			w.step(t)
			wantUsed(t, m, w.used)
			if i%10 == 0 {
				w.wantAll(t)
			}
		}
		for head := range w.texts {
			mustFree(t, m, head)
		}
		wantUsed(t, m, 0)
		if t.Failed() {
			t.Fatalf("in the walk %d", seed)
		}
	}
}

// paged is a store on a pager's transaction, with the map in its block 0.
type paged struct {
	*pager.Tx
	*space.Map
}

func begin(t *testing.T, p *pager.Pager, make bool) paged {
	t.Helper()
	tx, err := p.Begin()
	wantErr(t, "Begin", err, api.OK)
	if make {
		wantErr(t, "Make", space.Make(tx, p.Blocks()), api.OK)
	}
	taken, err := space.Load(tx, p.Blocks())
	wantErr(t, "Load", err, api.OK)
	return paged{tx, taken}
}

func (p paged) commit(t *testing.T) {
	t.Helper()
	wantErr(t, "Store", p.Store(p.Tx), api.OK)
	_, err := p.Commit()
	wantErr(t, "Commit", err, api.OK)
}

// P7.1 to P7.3: on blocks of a device, by transactions, found again behind a crash; what is given back rests.
func TestOnPages(t *testing.T) {
	d := disk.New(400)
	p, err := pager.Make(d, 150)
	wantErr(t, "Make", err, api.OK)
	data := textOf(api.MaxBlob, 1)
	s := begin(t, p, true)
	head := mustWrite(t, s, data)
	wantBlob(t, s, head, data)
	s.commit(t)
	wantErr(t, "Sync", p.Sync(), api.OK)

	s = begin(t, p, false)
	clone := mustClone(t, s, head)
	mustFree(t, s, head)
	if s.Used() != 2+97 {
		t.Errorf("%d blocks are taken", s.Used())
	}
	refuseWrite(t, s, data, api.ErrSpace) // of 250 blocks 2 are the map's and the next one, 97 the clone's, and 97 rest
	s.commit(t)
	s = begin(t, p, false)
	wantBlob(t, s, clone, data)
	again := mustWrite(t, s, data[:40000])
	s.commit(t)

	d.Crash(nil)
	p, err = pager.Open(d, 150)
	wantErr(t, "Open", err, api.OK)
	s = begin(t, p, false)
	if p.Done() == 1 {
		wantBlob(t, s, head, data)
	} else {
		wantBlob(t, s, clone, data)
	}
	if p.Done() == 3 {
		wantBlob(t, s, again, data[:40000])
	}
	d.Fuel(0)
	d.Flush()
	refuseHead(t, s, head, api.ErrDead)
}
