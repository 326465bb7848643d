package blob

import (
	"bytes"
	"math"
	"testing"

	"docket/api"
	"docket/btree"
)

// failing is a store in memory one of whose calls, counted down, answers an error, with something beside it that nobody
// should look at; or panics.
type failing struct {
	*btree.Mem
	left  int // below 1: none fails
	err   api.Errno
	panic any
	call  string // which sort of call has failed
}

func (f *failing) fails(call string) bool {
	f.left--
	if f.left != 0 {
		return false
	}
	f.call = call
	if f.panic != nil {
		panic(f.panic)
	}
	return true
}

func (f *failing) Read(b int) ([]byte, api.Errno) {
	data, err := f.Mem.Read(b)
	if f.fails("Read") {
		return data, f.err
	}
	return data, err
}

func (f *failing) Write(b int, data []byte) api.Errno {
	if f.fails("Write") {
		return f.err
	}
	return f.Mem.Write(b, data)
}

func (f *failing) Take() (int, api.Errno) {
	if f.fails("Take") {
		return 77, f.err
	}
	return f.Mem.Take()
}

func (f *failing) Free(b int) api.Errno {
	if f.fails("Free") {
		return f.err
	}
	return f.Mem.Free(b)
}

// calls are all calls, each telling whether it answered anything beside its error.
func calls(head int, data string) map[string]func(s api.Store) (bool, api.Errno) {
	return map[string]func(s api.Store) (bool, api.Errno){
		"Write":  func(s api.Store) (bool, api.Errno) { b, err := Write(s, data); return b != 0, err },
		"Size":   func(s api.Store) (bool, api.Errno) { n, err := Size(s, head); return n != 0, err },
		"Read":   func(s api.Store) (bool, api.Errno) { text, err := Read(s, head); return text != "", err },
		"ReadAt": func(s api.Store) (bool, api.Errno) { text, err := ReadAt(s, head, 9, 999); return text != "", err },
		"Blocks": func(s api.Store) (bool, api.Errno) { l, err := Blocks(s, head); return l != nil, err },
		"Free":   func(s api.Store) (bool, api.Errno) { return false, Free(s, head) },
		"Clone":  func(s api.Store) (bool, api.Errno) { b, err := Clone(s, head); return b != 0, err },
	}
}

// tryEach lets each call's store fail at each thing that it is asked, and looks at what is left.
func tryEach(t *testing.T, fail func(f *failing, n int) api.Errno) map[string]int {
	t.Helper()
	data, other, failed := textOf(1700, 1), textOf(900, 2), map[string]int{}
	for what := range calls(0, "") {
		for n := 1; ; n++ {
			f := &failing{Mem: btree.NewMem(40)}
			head, beside := mustWrite(t, f, data), mustWrite(t, f, other)
			used := f.Used()
			want := fail(f, n)
			answered, err := calls(head, data)[what](f)
			if f.left > 0 {
				wantErr(t, what, err, api.OK)
				break
			}
			failed[f.call]++
			wantErr(t, what, err, want)
			if answered {
				t.Errorf("%s answers something beside an error", what)
			}
			if f.call != "Free" {
				wantUsed(t, f.Mem, used)
				wantBlob(t, f, head, data)
			} else if len(mustBlocks(t, f, head)) != blocksFor(len(data)) {
				t.Errorf("the head is no more, though %d blocks are still taken", f.Used())
			}
			wantBlob(t, f, beside, other)
			if t.Failed() {
				t.Fatalf("%s, where %s fails at %d", what, f.call, n)
			}
		}
	}
	return failed
}

// Errors, P7.1, P7.3: whatever the store answers is answered, as it comes, and what had been taken is given back.
func TestErrorsOfTheStore(t *testing.T) {
	errs := []api.Errno{api.ErrSpace, api.ErrDead, api.ErrArg, api.ErrNone, api.ErrBad, api.ErrLong, -7, math.MaxInt}
	for shift := range errs {
		failed := tryEach(t, func(f *failing, n int) api.Errno {
			f.left, f.err = n, errs[(n+shift)%len(errs)]
			return f.err
		})
		for call, least := range map[string]int{"Read": 15, "Write": 10, "Take": 10, "Free": 5} {
			if failed[call] < least {
				t.Errorf("%s has failed %d times", call, failed[call])
			}
		}
	}
}

// P1 (rule 1): a store's panic is no one else's.
func TestPanicsOfTheStore(t *testing.T) {
	for _, with := range []any{"a text", api.ErrDead, 5} {
		tryEach(t, func(f *failing, n int) api.Errno {
			f.left, f.panic = n, with
			return api.ErrBad
		})
	}
}

// P7.3: where the first block to be given back is refused, nothing has changed.
func TestFirstFreeRefused(t *testing.T) {
	data := textOf(1700, 1)
	f := &failing{Mem: btree.NewMem(40), err: api.ErrBusy}
	head := mustWrite(t, f, data)
	used := f.Used()
	f.left = blocksFor(len(data)) + 1 // all are read ahead of that
	wantErr(t, "Free", Free(f, head), api.ErrBusy)
	if f.call != "Free" {
		t.Errorf("%s has failed", f.call)
	}
	wantUsed(t, f.Mem, used)
	wantBlob(t, f, head, data)
	mustFree(t, f, head)
	wantUsed(t, f.Mem, 0)
}

// stubborn is a store that has room for some blocks, and takes back none, or no others than one.
type stubborn struct {
	*btree.Mem
	takesBack int
	panics    bool
	asked     []int
}

func (s *stubborn) Free(b int) api.Errno {
	s.asked = append(s.asked, b)
	if b == s.takesBack {
		return s.Mem.Free(b)
	}
	if s.panics {
		panic("not this one")
	}
	return api.ErrBusy
}

// P7.1: the store's first error is answered, and each block offered back, whatever it answers to that.
func TestGivesBackAll(t *testing.T) {
	for i := range 10 {
		back := i / 2
		s := &stubborn{Mem: btree.NewMem(4), takesBack: back, panics: i%2 == 1}
		refuseWrite(t, s, textOf(3000, 1), api.ErrSpace)
		if len(s.asked) != 4 || s.Used() != 4-min(back, 1) {
			t.Errorf("offered back %v, %d are taken", s.asked, s.Used())
		}
	}
}

// sharing is a store that hands out its own memory, and keeps what it is handed.
type sharing struct {
	*btree.Mem
	data map[int][]byte
}

func (s *sharing) Read(b int) ([]byte, api.Errno) { return s.data[b], api.OK }

func (s *sharing) Write(b int, data []byte) api.Errno {
	if len(data) != 512 {
		return api.ErrArg // it adds no zeros
	}
	s.data[b] = data
	return api.OK
}

// P1 (rule 5): what the store hands out isn't changed, what it is handed is its own, and so are answers.
func TestSharedMemory(t *testing.T) {
	s, m := &sharing{btree.NewMem(300), map[int][]byte{}}, btree.NewMem(300)
	data := textOf(5000, 1)
	head := mustWrite(t, s, data)
	mustWrite(t, m, data)
	clone := mustClone(t, s, head)
	mustClone(t, m, head)
	same := func() {
		t.Helper()
		wantBlob(t, s, head, data)
		wantBlob(t, s, clone, data)
		wantReadAt(t, s, head, 500, 600, data[500:1100])
		for b := 1; b <= m.Used(); b++ {
			if want, _ := m.Read(b); !bytes.Equal(s.data[b], want) {
				t.Fatalf("block %d is not what was written", b)
			}
		}
	}
	same()
	one, two := mustBlocks(t, s, head), mustBlocks(t, s, head)
	clear(one[:cap(one)])
	if two[0] == 0 {
		t.Errorf("two answers share memory")
	}
	same()
	text, _ := Read(s, head)
	for _, b := range mustBlocks(t, s, clone) {
		clear(s.data[b]) // no two blobs' blocks, nor answers, share memory
	}
	wantBlob(t, s, head, data)
	for _, b := range mustBlocks(t, s, head) {
		clear(s.data[b])
	}
	if text != data {
		t.Errorf("a text has changed behind its Read")
	}
	refuseHead(t, s, head, api.ErrBad)
}
