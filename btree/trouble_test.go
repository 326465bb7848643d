package btree

import (
	"bytes"
	"maps"
	"math"
	"slices"
	"strings"
	"testing"

	"docket/api"
)

// failing is a store in memory one of whose calls, counted down, answers an error, with something beside it that nobody
// should look at; or panics.
type failing struct {
	*Mem
	left  int // below 1: none fails
	err   api.Errno
	panic any
	call  string // which sort of call has failed
}

func (f *failing) fails(call string) bool {
	f.left--
	if f.left != 0 {
		return false
	}
	f.call = call
	if f.panic != nil {
		panic(f.panic)
	}
	return true
}

func (f *failing) Read(b int) ([]byte, api.Errno) {
	data, err := f.Mem.Read(b)
	if f.fails("Read") {
		return data, f.err
	}
	return data, err
}

func (f *failing) Write(b int, data []byte) api.Errno {
	if f.fails("Write") {
		return f.err
	}
	return f.Mem.Write(b, data)
}

func (f *failing) Take() (int, api.Errno) {
	if f.fails("Take") {
		return 77, f.err
	}
	return f.Mem.Take()
}

func (f *failing) Free(b int) api.Errno {
	if f.fails("Free") {
		return f.err
	}
	return f.Mem.Free(b)
}

// changes are calls that change a tree of 300 keys of 60 bytes: in one leaf, in two, in one more, in one less.
func changes() map[string]func(x *Tree) api.Errno {
	all := map[string]func(x *Tree) api.Errno{}
	for _, size := range []int{0, 64} {
		all["Put "+keyOf(size, 2)] = func(x *Tree) api.Errno { return x.Put(keyOf(150, 60), keyOf(9, size)) }
	}
	all["Put first"] = func(x *Tree) api.Errno { return x.Put("\x00", keyOf(9, 64)) }
	all["Put last"] = func(x *Tree) api.Errno { return x.Put(strings.Repeat("\xff", 128), keyOf(9, 64)) }
	for i := 0; i < 300; i += 29 {
		all["Delete "+keyOf(i, 4)] = func(x *Tree) api.Errno {
			_, err := x.Delete(keyOf(i, 60))
			return err
		}
	}
	return all
}

// Types, P1 (rule 3): whichever call of the store answers an error in a change, that one is answered then and from then
// on; the root stays, and, as long as nothing was given back, all that was there, and no more is taken.
func TestSpoilt(t *testing.T) {
	errs := []api.Errno{api.ErrSpace, api.ErrDead, api.ErrArg, api.ErrNone, api.ErrBad, -7, math.MaxInt}
	failed := map[string]int{}
	for what, change := range changes() {
		for n := 1; ; n++ {
			f := &failing{Mem: NewMem(4096), err: errs[n%len(errs)]}
			x, pairs := grown(t, f, 300, 60, 30)
			root, used, frees := x.Root(), f.Used(), mustBlocks(t, x)
			f.left = n
			err := change(x)
			if f.left > 0 {
				wantErr(t, what, err, api.OK)
				break
			}
			failed[f.call]++
			wantErr(t, what, err, f.err)
			for _, key := range []string{"a", keyOf(1, 60), "", strings.Repeat("k", 129)} {
				refuseAll(t, x, key, f.err)
			}
			wantErr(t, "Put", x.Put("a", strings.Repeat("v", 65)), f.err)
			if x.Root() != root {
				t.Errorf("Root = %d, want %d", x.Root(), root)
			}
			if gone := len(frees) - countTaken(f, frees); f.call != "Free" || gone == 0 {
				wantUsed(t, f.Mem, used)
				wantTree(t, Open(f, root), pairs)
			} else if f.Used() != used-gone {
				t.Errorf("%d blocks are taken, want %d", f.Used(), used-gone)
			}
			if t.Failed() {
				t.Fatalf("%s, where %s fails at %d", what, f.call, n)
			}
		}
	}
	for _, call := range []string{"Read", "Write", "Take", "Free"} {
		if failed[call] < 20 {
			t.Errorf("%s has failed %d times", call, failed[call])
		}
	}
}

func countTaken(s api.Store, blocks []int) int {
	taken := 0
	for _, b := range blocks {
		if _, err := s.Read(b); err == api.OK {
			taken++
		}
	}
	return taken
}

// Types: what is asked alone spoils nothing, and tells nothing beside the error.
func TestReadsSpoilNothing(t *testing.T) {
	f := &failing{Mem: NewMem(4096)}
	x, pairs := grown(t, f, 300, 60, 30)
	whole := len(mustBlocks(t, x))
	for n := 1; n <= whole; n++ {
		for _, f.err = range []api.Errno{api.ErrDead, api.ErrBad, 99} {
			f.left = n
			refuseNumber(t, f, "Blocks", func() (int, api.Errno) { b, err := x.Blocks(); return len(b), err })
			f.left = n
			refuseNumber(t, f, "Scan", func() (int, api.Errno) { p, err := x.Scan("", 999); return len(p), err })
			f.left = n
			value, found, err := x.Get(keyOf(150, 60))
			if f.left <= 0 {
				wantErr(t, "Get", err, f.err)
				if value != "" || found {
					t.Errorf("Get = %q, %v beside an error", value, found)
				}
			}
		}
	}
	f.left = 0
	wantTree(t, x, pairs)
	mustPut(t, x, "a", "b")
}

// refuseNumber holds that a call answers the store's error, and tells nothing beside it.
func refuseNumber(t *testing.T, f *failing, what string, call func() (int, api.Errno)) {
	t.Helper()
	n, err := call()
	wantErr(t, what, err, f.err)
	if n != 0 {
		t.Errorf("%s tells %d beside an error", what, n)
	}
}

// Types, P6.3: a store without room, at each number of blocks: what has come is there, and what comes no more takes none.
func TestNoRoom(t *testing.T) {
	for room := range 60 {
		m := NewMem(room)
		x, pairs := Open(m, 0), map[string]string{}
		for i := 0; ; i++ {
			used, key := m.Used(), keyOf(i*7%5000, 30)
			if err := x.Put(key, "v"); err != api.OK {
				wantErr(t, "Put", err, api.ErrSpace)
				refuseAll(t, x, key, api.ErrSpace)
				wantUsed(t, m, used)
				break
			}
			pairs[key] = "v"
		}
		if len(pairs) < 5*(room-4) { // a leaf has room for 15
			t.Errorf("%d keys in %d blocks", len(pairs), room)
		}
		wantTree(t, Open(m, x.Root()), pairs)
	}
}

// Types: a store that holds what the tree would write over, if it did: a Hold never spoils.
func TestHoldSpoilsNothing(t *testing.T) {
	m := NewMem(4096)
	x, pairs := grown(t, m, 50, 60, 30)
	for i := range 50 {
		m.Hold()
		pairs[keyOf(i, 60)] = "new"
		mustPut(t, x, keyOf(i, 60), "new")
		m.Hold()
		delete(pairs, keyOf(i*7%(i+1), 60))
		_, err := x.Delete(keyOf(i*7%(i+1), 60))
		wantErr(t, "Delete", err, api.OK)
	}
	wantTree(t, x, pairs)
}

// P1 (rule 1): a store's panic isn't the tree's.
func TestPanicsOfTheStore(t *testing.T) {
	for _, with := range []any{"a text", api.ErrDead, 5} {
		for n := 1; n < 20; n++ {
			f := &failing{Mem: NewMem(4096), panic: with}
			x, pairs := grown(t, f, 300, 60, 30)
			root, used := x.Root(), f.Used()
			for range 3 {
				f.left = n
				x.Get(keyOf(150, 60))
				x.Scan("", 999)
				x.Blocks()
			}
			f.left = 0
			wantTree(t, x, pairs)
			f.left = n
			err := x.Put(keyOf(150, 60), "new")
			if f.left > 0 {
				wantErr(t, "Put", err, api.OK)
				continue
			}
			refuseAll(t, x, "a", api.ErrBad)
			if x.Root() != root || f.call != "Free" && f.Used() != used {
				t.Errorf("Root %d, %d blocks taken, want %d and %d", x.Root(), f.Used(), root, used)
			}
		}
	}
	var none *Mem
	x := Open(none, 0)
	wantGet(t, x, "a", "", false)
	wantScan(t, x, "", 9)
	wantErr(t, "Put", x.Put("a", "b"), api.ErrNone)
	refuseAll(t, x, "a", api.ErrNone)
	refuseAll(t, Open(none, 5), "a", api.ErrNone)
}

// odd is a store that gives out a number that no block of a tree can have, and notes what comes back.
type odd struct {
	*Mem
	gives int
	freed []int
}

func (o *odd) Take() (int, api.Errno) { return o.gives, api.OK }

func (o *odd) Free(b int) api.Errno {
	o.freed = append(o.freed, b)
	return api.OK
}

// P6.2: 0 names the tree without keys alone, and no root is below it: such blocks are not for a tree.
func TestBlocksThatNoTreeHas(t *testing.T) {
	for _, b := range []int{0, -1, math.MinInt} {
		o := &odd{Mem: NewMem(9), gives: b}
		x := Open(o, 0)
		wantErr(t, "Put", x.Put("a", "b"), api.ErrBad)
		refuseAll(t, x, "a", api.ErrBad)
		if x.Root() != 0 || !slices.Equal(o.freed, []int{b}) {
			t.Errorf("Root %d, given back %v", x.Root(), o.freed)
		}
	}
}

// far is a store whose blocks have great numbers.
type far struct{ *Mem }

const farOff = math.MaxInt - 4096

func (f far) Read(b int) ([]byte, api.Errno)     { return f.Mem.Read(b - farOff) }
func (f far) Write(b int, data []byte) api.Errno { return f.Mem.Write(b-farOff, data) }
func (f far) Free(b int) api.Errno               { return f.Mem.Free(b - farOff) }
func (f far) Take() (int, api.Errno)             { b, err := f.Mem.Take(); return b + farOff, err }

// Words: a block's number may be any.
func TestGreatNumbers(t *testing.T) {
	f := far{NewMem(4096)}
	x, pairs := grown(t, f, 300, 128, 64)
	wantTree(t, x, pairs)
	for _, key := range slices.Sorted(maps.Keys(pairs)) {
		mustDelete(t, x, key, true)
	}
	wantUsed(t, f.Mem, 0)
	wantTree(t, x, nil)
}

// sharing is a store that hands out its own memory, and keeps what it is handed.
type sharing struct {
	*Mem
	data map[int][]byte
}

func (s *sharing) Read(b int) ([]byte, api.Errno) { return s.data[b], api.OK }

func (s *sharing) Write(b int, data []byte) api.Errno {
	s.data[b] = data
	return api.OK
}

// P1 (rule 5): what the store hands out isn't changed, and what it is handed is its own.
func TestSharedMemory(t *testing.T) {
	s := &sharing{NewMem(4096), map[int][]byte{}}
	x, pairs := grown(t, s, 100, 30, 30)
	m := NewMem(4096)
	y, _ := grown(t, m, 100, 30, 30)
	for i := range 100 {
		if i%3 == 0 {
			delete(pairs, keyOf(i, 30))
			mustDelete(t, x, keyOf(i, 30), true)
			mustDelete(t, y, keyOf(i, 30), true)
		}
		for _, b := range mustBlocks(t, y) {
			want, _ := m.Read(b)
			if !bytes.Equal(s.data[b], want) {
				t.Fatalf("block %d was changed behind its Write", b)
			}
		}
	}
	wantTree(t, x, pairs)
	first, _ := x.Scan("", 999)
	second, _ := x.Scan("", 999)
	clear(first[:cap(first)])
	one := mustBlocks(t, x)
	two := mustBlocks(t, x)
	clear(one[:cap(one)])
	if len(second) != len(pairs) || second[0].Key == "" || two[0] == 0 {
		t.Errorf("two answers share memory")
	}
	wantTree(t, x, pairs)
}
