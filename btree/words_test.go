package btree

import (
	"maps"
	"slices"
	"strings"
	"testing"

	"docket/api"
)

// dice throws the same numbers in each run.
type dice uint64

func (x *dice) below(n int) int {
	*x = *x*6364136223846793005 + 1442695040888963407
	return int(uint64(*x) >> 33 % uint64(n))
}

// text is one of at most so many bytes, of few letters, so that keys come again and share beginnings.
func (x *dice) text(most int) string {
	b := make([]byte, x.below(most+1))
	for i := range b {
		b[i] = "ab\x00\xff"[x.below(4)]
	}
	if x.below(3) == 0 && len(b) < most {
		return strings.Repeat("a", most-len(b)) + string(b)
	}
	return string(b)
}

// remembered is a root, and what it told.
type remembered struct {
	root  int
	pairs map[string]string
}

// walk does steps to a tree and to a map beside it, and holds one against the other.
type walk struct {
	dice
	mem     *Mem
	tree    *Tree
	pairs   map[string]string
	keySize int
	kept    []remembered
}

func (w *walk) key() string {
	if keys := slices.Sorted(maps.Keys(w.pairs)); len(keys) > 0 && w.below(2) == 0 {
		return keys[w.below(len(keys))]
	}
	return w.text(w.keySize-1) + "k"
}

// step changes or asks something; growing tells whether rather to put than to delete.
func (w *walk) step(t *testing.T, growing bool) {
	t.Helper()
	key := w.key()
	value, there := w.pairs[key]
	put := w.below(4) > 0 == growing
	switch {
	case w.below(10) == 0:
		wantGet(t, w.tree, key, value, there)
	case w.below(10) == 0:
		w.tree = Open(w.mem, w.tree.Root())
	case w.below(60) == 0 && len(w.kept) < 20:
		w.mem.Hold()
		w.kept = append(w.kept, remembered{w.tree.Root(), maps.Clone(w.pairs)})
	case put:
		w.pairs[key] = w.text(api.MaxSmall)
		mustPut(t, w.tree, key, w.pairs[key])
	default:
		delete(w.pairs, key)
		mustDelete(t, w.tree, key, there)
	}
	if len(mustBlocks(t, w.tree)) > 2*len(w.pairs) {
		t.Fatalf("%d blocks for %d keys", len(mustBlocks(t, w.tree)), len(w.pairs))
	}
}

func (w *walk) wantScan(t *testing.T) {
	t.Helper()
	from, most := w.text(w.keySize), w.below(len(w.pairs)+2)
	var want []string
	for _, key := range slices.Sorted(maps.Keys(w.pairs)) {
		if key >= from && len(want) < 2*most {
			want = append(want, key, w.pairs[key])
		}
	}
	wantScan(t, w.tree, from, most, want...)
}

// P6.2 to P6.5: long walks of all calls, with trees that are opened anew and roots that are held.
func TestWalks(t *testing.T) {
	for seed := range 60 {
		w := &walk{dice: dice(seed), mem: NewMem(4096), pairs: map[string]string{}}
		w.tree = Open(w.mem, 0)
		w.keySize = []int{2, 5, 20, api.MaxKey}[seed%4]
		for phase := range 6 {
			for range 60 {
				w.step(t, phase%2 == 0)
			}
			wantTree(t, w.tree, w.pairs)
			w.wantScan(t)
		}
		for _, old := range w.kept {
			wantTree(t, Open(w.mem, old.root), old.pairs)
		}
		for _, key := range slices.Sorted(maps.Keys(w.pairs)) {
			mustDelete(t, w.tree, key, true)
		}
		wantTree(t, w.tree, nil)
		if len(w.kept) == 0 {
			wantUsed(t, w.mem, 0)
		}
		if t.Failed() {
			t.Fatalf("in the walk %d", seed)
		}
	}
}

// P6.5: no root that a tree ever had is told otherwise later, nor what lies below it, as long as its blocks are held.
func TestEachRootStays(t *testing.T) {
	m := NewMem(4096)
	x, pairs := Open(m, 0), map[string]string{}
	var kept []remembered
	var below []map[int][]byte
	for i := range 120 {
		key := keyOf(i*7%120, 100)
		pairs[key] = "v"
		mustPut(t, x, key, "v")
		if i%3 == 2 {
			delete(pairs, keyOf(i*5%120, 100))
			_, err := x.Delete(keyOf(i*5%120, 100))
			wantErr(t, "Delete", err, api.OK)
		}
		m.Hold()
		kept = append(kept, remembered{x.Root(), maps.Clone(pairs)})
		held := map[int][]byte{}
		for _, b := range mustBlocks(t, x) {
			held[b], _ = m.Read(b)
		}
		below = append(below, held)
	}
	for i, old := range kept {
		wantTree(t, Open(m, old.root), old.pairs)
		for b, data := range below[i] {
			if now, _ := m.Read(b); !slices.Equal(now, data) {
				t.Errorf("block %d has changed", b)
			}
		}
	}
}
