package btree

import (
	"fmt"
	"maps"
	"math"
	"slices"
	"strings"
	"testing"

	"docket/api"
)

// watched is a store in memory that counts what is asked of it, and keeps the numbers of the blocks that were taken.
type watched struct {
	*Mem
	reads, writes, takes, frees int
	taken                       map[int]struct{} // since seen was told
	written                     map[int]struct{}
}

func watch(blocks int) *watched {
	w := &watched{Mem: NewMem(blocks)}
	w.forget()
	return w
}

func (w *watched) forget() {
	w.reads, w.writes, w.takes, w.frees = 0, 0, 0, 0
	w.taken, w.written = map[int]struct{}{}, map[int]struct{}{}
}

func (w *watched) asked() int { return w.reads + w.writes + w.takes + w.frees }

func (w *watched) Read(b int) ([]byte, api.Errno) {
	w.reads++
	return w.Mem.Read(b)
}

func (w *watched) Write(b int, data []byte) api.Errno {
	w.writes++
	w.written[b] = struct{}{}
	return w.Mem.Write(b, data)
}

func (w *watched) Take() (int, api.Errno) {
	w.takes++
	b, err := w.Mem.Take()
	w.taken[b] = struct{}{}
	return b, err
}

func (w *watched) Free(b int) api.Errno {
	w.frees++
	return w.Mem.Free(b)
}

func mustPut(t *testing.T, x *Tree, key, value string) {
	t.Helper()
	if err := x.Put(key, value); err != api.OK {
		t.Fatalf("Put(%.20q, %.20q): error %d", key, value, err)
	}
}

func mustDelete(t *testing.T, x *Tree, key string, want bool) {
	t.Helper()
	if was, err := x.Delete(key); err != api.OK || was != want {
		t.Fatalf("Delete(%.20q) = %v, error %d, want %v", key, was, err, want)
	}
}

func wantGet(t *testing.T, x *Tree, key, want string, there bool) {
	t.Helper()
	value, found, err := x.Get(key)
	if err != api.OK || found != there || value != want {
		t.Errorf("Get(%.20q) = %.20q, %v, error %d, want %.20q, %v", key, value, found, err, want, there)
	}
}

// wantScan holds that a scan tells just these pairs: a key, its value, the next key, and so on.
func wantScan(t *testing.T, x *Tree, from string, most int, want ...string) {
	t.Helper()
	pairs, err := x.Scan(from, most)
	wantErr(t, "Scan", err, api.OK)
	var got []string
	for _, p := range pairs {
		got = append(got, p.Key, p.Value)
	}
	if !slices.Equal(got, want) {
		t.Errorf("Scan(%.20q, %d) = %.200q, want %.200q", from, most, got, want)
	}
}

// refuseAll holds that each call answers an error, and nothing beside it.
func refuseAll(t *testing.T, x *Tree, key string, want api.Errno) {
	t.Helper()
	value, found, err := x.Get(key)
	wantErr(t, "Get", err, want)
	if value != "" || found {
		t.Errorf("Get = %q, %v beside an error", value, found)
	}
	wantErr(t, "Put", x.Put(key, "x"), want)
	was, err := x.Delete(key)
	wantErr(t, "Delete", err, want)
	if was {
		t.Errorf("Delete = true beside an error")
	}
	refuseWhole(t, x, want)
}

// refuseWhole holds that Scan and Blocks answer an error, and nothing beside it.
func refuseWhole(t *testing.T, x *Tree, want api.Errno) {
	t.Helper()
	pairs, err := x.Scan("", math.MaxInt)
	wantErr(t, "Scan", err, want)
	if len(pairs) != 0 {
		t.Errorf("Scan: %d pairs beside an error", len(pairs))
	}
	blocks, err := x.Blocks()
	wantErr(t, "Blocks", err, want)
	if len(blocks) != 0 {
		t.Errorf("Blocks: %v beside an error", blocks)
	}
}

func mustBlocks(t *testing.T, x *Tree) []int {
	t.Helper()
	blocks, err := x.Blocks()
	if err != api.OK {
		t.Fatalf("Blocks: error %d", err)
	}
	return blocks
}

// wantTree holds that a tree has just these pairs, however it is asked, and isn't a waste.
func wantTree(t *testing.T, x *Tree, want map[string]string) {
	t.Helper()
	var list []string
	for _, key := range slices.Sorted(maps.Keys(want)) {
		list = append(list, key, want[key])
		wantGet(t, x, key, want[key], true)
	}
	for _, most := range []int{len(want), len(want) + 1, math.MaxInt} {
		wantScan(t, x, "", most, list...)
	}
	blocks := mustBlocks(t, x)
	if len(blocks) > 2*len(want) {
		t.Errorf("%d blocks for %d keys", len(blocks), len(want))
	}
	if !slices.IsSorted(blocks) || len(slices.Compact(blocks)) != len(blocks) {
		t.Errorf("Blocks = %v: they don't rise", blocks)
	}
	if len(want) == 0 && x.Root() != 0 || len(want) > 0 && !slices.Contains(blocks, x.Root()) {
		t.Errorf("with %d keys Root = %d, of the blocks %v", len(want), x.Root(), blocks)
	}
}

// keyOf is one of many keys, of so many bytes (the first four tell which one).
func keyOf(i, size int) string {
	return (fmt.Sprintf("%04d", i) + strings.Repeat("k", size))[:size]
}

// grown is a tree with n keys of so many bytes, each with a value of so many.
func grown(t *testing.T, s api.Store, n, keySize, valueSize int) (*Tree, map[string]string) {
	t.Helper()
	x, pairs := Open(s, 0), map[string]string{}
	for i := range n {
		key := keyOf(i*7919%n, keySize)
		pairs[key] = keyOf(i, valueSize)
		mustPut(t, x, key, pairs[key])
	}
	if len(pairs) != n {
		t.Fatalf("%d keys, want %d", len(pairs), n)
	}
	return x, pairs
}

// The chapter's examples.
func TestExamples(t *testing.T) {
	m := NewMem(9)
	x := Open(m, 0)
	if x.Root() != 0 {
		t.Errorf("Root = %d", x.Root())
	}
	wantGet(t, x, "a", "", false)
	mustPut(t, x, "a", "1")
	mustPut(t, x, "b", "2")
	wantGet(t, x, "a", "1", true)
	wantScan(t, x, "", 9, "a", "1", "b", "2")
	wantScan(t, x, "b", 9, "b", "2")
	if blocks := mustBlocks(t, x); len(blocks) != 1 {
		t.Errorf("Blocks = %v", blocks)
	}
	wantUsed(t, m, 1)
	mustDelete(t, x, "a", true)
	mustDelete(t, x, "a", false)
	mustDelete(t, x, "b", true)
	if x.Root() != 0 {
		t.Errorf("Root = %d", x.Root())
	}
	wantUsed(t, m, 0)
	wantErr(t, "Put", x.Put("", "x"), api.ErrArg)
	wantErr(t, "Put", x.Put("a", strings.Repeat("v", 65)), api.ErrArg)
}

// P6.2: where no tree can be opened, and that Open reads nothing.
func TestOpen(t *testing.T) {
	for _, root := range []int{math.MinInt, -1, 0, 1, math.MaxInt} {
		if Open(nil, root) != nil {
			t.Errorf("a tree at %d of no store", root)
		}
		w := watch(5)
		x := Open(w, root)
		if (x == nil) != (root < 0) {
			t.Errorf("Open(%d) = %v", root, x)
		}
		if x.Root() != max(root, 0) {
			t.Errorf("Root = %d, want %d", x.Root(), root)
		}
		if w.asked() != 0 {
			t.Errorf("Open(%d) has asked the store", root)
		}
	}
}

// Types: a nil *Tree, whatever it is asked.
func TestNilTree(t *testing.T) {
	var x *Tree
	for _, key := range []string{"", "a", strings.Repeat("k", 129)} {
		refuseAll(t, x, key, api.ErrNone)
	}
	wantErr(t, "Put", x.Put("a", strings.Repeat("v", 65)), api.ErrNone)
	for _, most := range []int{math.MinInt, -1, 0, 1} {
		_, err := x.Scan("", most)
		wantErr(t, "Scan", err, api.ErrNone)
	}
	if x.Root() != 0 {
		t.Errorf("Root of nothing = %d", x.Root())
	}
}

// P6.3: what isn't good is refused, and the store isn't even asked; what is just good is taken.
func TestLimits(t *testing.T) {
	w := watch(99)
	x := Open(w, 0)
	longKey, longValue := strings.Repeat("k", 128), strings.Repeat("v", 64)
	pairs := map[string]string{longKey: longValue, "a": "", "\x00": longValue, longKey[:127] + "\xff": "x", "\xff": "\x00"}
	for _, key := range slices.Sorted(maps.Keys(pairs)) {
		mustPut(t, x, key, pairs[key])
	}
	for _, key := range []string{"", longKey + "k", longKey + "\x00", strings.Repeat("k", 256), strings.Repeat("k", 129+256), strings.Repeat("k", 99999)} {
		w.forget()
		for _, value := range []string{"", "v", longValue, longValue + "v"} {
			wantErr(t, "Put of a bad key", x.Put(key, value), api.ErrArg)
		}
		value, found, err := x.Get(key)
		wantErr(t, "Get of a bad key", err, api.ErrArg)
		was, err := x.Delete(key)
		wantErr(t, "Delete of a bad key", err, api.ErrArg)
		if value != "" || found || was {
			t.Errorf("%q, %v, %v beside errors", value, found, was)
		}
		if w.asked() != 0 {
			t.Errorf("the store was asked for a bad key")
		}
	}
	for _, value := range []string{longValue + "v", strings.Repeat("v", 256), strings.Repeat("v", 99999)} {
		wantErr(t, "Put of a bad value", x.Put("a", value), api.ErrArg)
		wantErr(t, "Put of a bad value", x.Put("new", value), api.ErrArg)
	}
	wantTree(t, x, pairs)
}

// P6.3: keys and values are any bytes; the keys' order is that of their bytes.
func TestAnyBytes(t *testing.T) {
	x, pairs := Open(NewMem(999), 0), map[string]string{}
	for a := range 256 {
		for _, key := range []string{string([]byte{byte(a)}), string([]byte{byte(a), 0}), string([]byte{'m', byte(a)}), string([]byte{0, 0, byte(a), 255})} {
			pairs[key] = string([]byte{0, byte(a), 0})
			mustPut(t, x, key, pairs[key])
		}
	}
	wantTree(t, x, pairs)
	wantGet(t, x, "m\x00\x00", "", false)
	for _, key := range slices.Sorted(maps.Keys(pairs)) {
		mustDelete(t, x, key, true)
	}
	wantTree(t, x, nil)
}

// P6.3: Put gives a key that is there another value, shorter or longer; what is the same already is left alone.
func TestPutAnotherValue(t *testing.T) {
	w := watch(999)
	x, pairs := grown(t, w, 40, 20, 20)
	for i, size := range []int{0, 64, 20, 1, 63, 0, 64} {
		for _, key := range slices.Sorted(maps.Keys(pairs)) {
			pairs[key] = strings.Repeat(string(rune('a'+i)), size)
			mustPut(t, x, key, pairs[key])
		}
		wantTree(t, x, pairs)
	}
	root := x.Root()
	w.forget()
	for key, value := range pairs {
		mustPut(t, x, key, value)
	}
	if x.Root() != root || w.writes+w.takes+w.frees != 0 {
		t.Errorf("what was there already has been written")
	}
}

// P6.3: Delete of what isn't there changes nothing, in a tree without keys and in others.
func TestDeleteOfNothing(t *testing.T) {
	w := watch(999)
	mustDelete(t, Open(w, 0), "a", false)
	if w.asked() != 0 {
		t.Errorf("a tree without keys has asked its store")
	}
	x, pairs := grown(t, w, 300, 20, 20)
	root := x.Root()
	w.forget()
	for _, key := range []string{"\x00", "a", "\xff", keyOf(5, 19), keyOf(5, 21), keyOf(299, 128)} {
		mustDelete(t, x, key, false)
		wantGet(t, x, key, "", false)
	}
	if x.Root() != root || w.writes+w.takes+w.frees != 0 {
		t.Errorf("Delete of nothing has written")
	}
	wantTree(t, x, pairs)
}

// P6.4: from is any text, most any number.
func TestScan(t *testing.T) {
	x, pairs := grown(t, NewMem(999), 300, 30, 10)
	keys := slices.Sorted(maps.Keys(pairs))
	froms := []string{"", "\x00", "0", "0099z", "0299", "\xff", strings.Repeat("\xff", 500), keys[7][:29], keys[7] + "\x00", strings.Repeat("0", 500)}
	for _, from := range append(froms, keys...) {
		at, _ := slices.BinarySearch(keys, from)
		for _, most := range []int{math.MinInt, -1, 0, 1, 2, 17, 299, 300, 301, math.MaxInt} {
			var want []string
			for _, key := range keys[at:min(len(keys), at+min(max(most, 0), len(keys)))] {
				want = append(want, key, pairs[key])
			}
			wantScan(t, x, from, most, want...)
		}
	}
	small, _ := grown(t, NewMem(9), 3, 4, 1)
	for most, want := range map[int][]string{math.MinInt: nil, -1: nil, 0: nil, 2: {"0000", "0", "0001", "0"}} {
		wantScan(t, small, "", most, want...)
		wantScan(t, Open(NewMem(0), 0), "", most)
	}
}

// P6.4: a scan reads what it tells, and not the whole tree; Get reads one way down.
func TestReadsAreFew(t *testing.T) {
	w := watch(999)
	x, _ := grown(t, w, 900, 20, 20)
	for what, read := range map[string]func(){
		"Get":    func() { x.Get(keyOf(500, 20)) },
		"Scan":   func() { x.Scan(keyOf(500, 20), 5) },
		"Put":    func() { x.Put(keyOf(500, 20), "v") },
		"Delete": func() { x.Delete(keyOf(500, 20)) },
	} {
		w.forget()
		if read(); w.reads > 10 {
			t.Errorf("%s reads %d blocks", what, w.reads)
		}
	}
}

// P6.4: Blocks tells just the blocks that the store has given out, from the first key to the last one and back.
func TestBlocks(t *testing.T) {
	m := NewMem(4096)
	mustTake(t, m, 1, 2, 3)
	x := Open(m, 0)
	check := func(keys int) {
		t.Helper()
		blocks := mustBlocks(t, x)
		if len(blocks) > 2*keys || len(blocks) != m.Used()-3 {
			t.Fatalf("with %d keys %d blocks, of %d that are taken", keys, len(blocks), m.Used())
		}
		for i, b := range blocks {
			if _, err := m.Read(b); err != api.OK || b <= 3 || i > 0 && b <= blocks[i-1] {
				t.Fatalf("Blocks = %v", blocks)
			}
		}
	}
	check(0)
	for i := range 200 {
		mustPut(t, x, keyOf(i*37%200, 4+i%125), keyOf(i, i%65))
		check(i + 1)
	}
	pairs, _ := x.Scan("", 999)
	for i := range pairs {
		mustDelete(t, x, pairs[i*37%200].Key, true)
		check(200 - i - 1)
	}
}

// Words: at most twice as many blocks as keys, whatever their sizes and their order, in growth and in decline.
func TestNoWaste(t *testing.T) {
	orders := map[string]func(i, n int) int{
		"rising":  func(i, n int) int { return i },
		"falling": func(i, n int) int { return n - 1 - i },
		"mixed":   func(i, n int) int { return i * 77 % n },
		"inward":  func(i, n int) int { return []int{i / 2, n - 1 - i/2}[i%2] },
	}
	sizes := []func(i int) (int, int){
		func(i int) (int, int) { return 4, 0 },
		func(i int) (int, int) { return 128, 64 },
		func(i int) (int, int) { return 4 + i%125, i % 65 },
		func(i int) (int, int) { return []int{4, 128}[i%2], 0 },
		func(i int) (int, int) { return []int{5, 128}[i/50%2], 64 },
	}
	const n = 120
	for up, grow := range orders {
		for down, shrink := range orders {
			for k, size := range sizes {
				m := NewMem(4096)
				x, pairs, keys := Open(m, 0), map[string]string{}, make([]string, n)
				for i := range n {
					a, b := size(grow(i, n))
					key := keyOf(grow(i, n), a)
					keys[grow(i, n)], pairs[key] = key, keyOf(i, b)
					mustPut(t, x, key, pairs[key])
					wantFew(t, m, x, i+1)
				}
				wantTree(t, x, pairs)
				for i := range n {
					key := keys[shrink(i, n)]
					mustDelete(t, x, key, true)
					delete(pairs, key)
					wantFew(t, m, x, n-i-1)
					if i%50 == 49 {
						wantTree(t, x, pairs)
					}
				}
				if t.Failed() {
					t.Fatalf("grown %s, shrunk %s, with sizes %d", up, down, k)
				}
			}
		}
	}
}

// wantFew holds that a tree with so many keys has just the blocks that are taken, and not too many of them.
func wantFew(t *testing.T, m *Mem, x *Tree, keys int) {
	t.Helper()
	if blocks := len(mustBlocks(t, x)); blocks != m.Used() || blocks > 2*keys {
		t.Errorf("with %d keys %d blocks are taken, and Blocks tells %d", keys, m.Used(), blocks)
	}
}

// Words: a tree that has shrunk isn't left in small pieces.
func TestSmallPiecesAreJoined(t *testing.T) {
	m := NewMem(4096)
	x, _ := grown(t, m, 2000, 10, 10)
	for i := range 2000 {
		if i%20 != 0 {
			mustDelete(t, x, keyOf(i, 10), true)
		}
	}
	if m.Used() > 15 { // 100 keys, at some 22 bytes each
		t.Errorf("%d blocks for 100 small keys", m.Used())
	}
}

// Words: whatever is written was taken by that very call, so that what lay on a block stays, also where nothing is held.
func TestCopyOnWrite(t *testing.T) {
	w := watch(4096)
	x := Open(w, 0)
	check := func() {
		t.Helper()
		for b := range w.written {
			if _, ok := w.taken[b]; !ok {
				t.Fatalf("block %d was written, but not taken", b)
			}
		}
		if w.writes != w.takes {
			t.Errorf("%d blocks were taken, but %d written", w.takes, w.writes)
		}
		w.forget()
	}
	for i := range 500 {
		mustPut(t, x, keyOf(i*7%500, 60), "v")
		check()
		mustPut(t, x, keyOf(i*3%(i+1)*7%500, 60), keyOf(i, 64))
		check()
	}
	for i := range 500 {
		mustDelete(t, x, keyOf(i*3%500, 60), true)
		check()
	}
	wantUsed(t, w.Mem, 0)
}

// P6.5, and words: behind a Hold a tree goes on, opened anew or not, and what is told at the old root stays.
func TestHeldTree(t *testing.T) {
	for _, n := range []int{1, 2, 9, 60, 400} {
		m := NewMem(4096)
		x, pairs := grown(t, m, n, 50, 30)
		before := maps.Clone(pairs)
		m.Hold()
		old, held := Open(m, x.Root()), m.Used()
		for _, now := range []*Tree{x, Open(m, x.Root())} {
			pairs = maps.Clone(before)
			for i := range n {
				pairs[keyOf(i, 51)] = "new"
				mustPut(t, now, keyOf(i, 51), "new")
				if i%3 > 0 {
					delete(pairs, keyOf(i, 50))
					mustDelete(t, now, keyOf(i, 50), true)
				}
			}
			wantTree(t, now, pairs)
			wantTree(t, old, before)
			for _, key := range slices.Sorted(maps.Keys(pairs)) {
				mustDelete(t, now, key, true)
			}
			wantTree(t, now, nil)
			wantUsed(t, m, held)
		}
		wantTree(t, old, before)
		wantTree(t, Open(m, old.Root()), before)
	}
}

// P6.5: two trees in one store are apart, and what one Tree has written another one tells, as soon as it is opened there.
func TestTreesOfOneStore(t *testing.T) {
	m := NewMem(4096)
	a, b := Open(m, 0), Open(m, 0)
	pairsA, pairsB := map[string]string{}, map[string]string{}
	for i := range 150 {
		key := keyOf(i*7%150, 40)
		pairsA[key], pairsB[key] = "a", "b"
		mustPut(t, a, key, "a")
		mustPut(t, b, key, "b")
		if i%2 == 0 {
			delete(pairsB, key)
			mustDelete(t, b, key, true)
		}
		if i%10 == 0 {
			wantTree(t, Open(m, a.Root()), pairsA)
			wantTree(t, Open(m, b.Root()), pairsB)
			b = Open(m, b.Root())
		}
	}
	wantTree(t, a, pairsA)
	wantTree(t, b, pairsB)
	both := append(mustBlocks(t, a), mustBlocks(t, b)...)
	slices.Sort(both)
	if len(slices.Compact(both)) != m.Used() {
		t.Errorf("the trees have %d blocks, but %d are taken", len(both), m.Used())
	}
}
