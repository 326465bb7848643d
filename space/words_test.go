package space

import (
	"fmt"
	"testing"

	"docket/api"
	"docket/disk"
	"docket/pager"
)

// dice throws the same numbers in each run.
type dice uint64

func (x *dice) below(n int) int {
	*x = *x*6364136223846793005 + 1442695040888963407
	return int(uint64(*x) >> 33 % uint64(n))
}

// told is the chapter's words, taken as they stand.
type told struct {
	blocks int
	taken  map[int]struct{}
	old    map[int]struct{}
}

func among(s map[int]struct{}, b int) bool {
	_, ok := s[b]
	return ok
}

// toldOf is what a map is told to be that was loaded with these blocks taken.
func toldOf(blocks int, taken []int) *told {
	w := &told{blocks, map[int]struct{}{}, map[int]struct{}{}}
	for _, b := range taken {
		w.taken[b] = struct{}{}
		w.old[b] = struct{}{}
	}
	return w
}

func (w *told) list() []int {
	var all []int
	for b := range w.blocks {
		if among(w.taken, b) {
			all = append(all, b)
		}
	}
	return all
}

func (w *told) take() (int, api.Errno) {
	for b := range w.blocks {
		if !among(w.taken, b) && !among(w.old, b) {
			w.taken[b] = struct{}{}
			return b, api.OK
		}
	}
	return 0, api.ErrSpace
}

func (w *told) free(b int) api.Errno {
	if b < 2 || !among(w.taken, b) {
		return api.ErrArg
	}
	delete(w.taken, b)
	return api.OK
}

// step does one thing to a map and to what is told of it, and gives back those that go on.
func step(t *testing.T, p *pages, m *Map, w *told, x *dice) (*Map, *told) {
	t.Helper()
	switch x.below(20) {
	case 0:
		mustStore(t, m, p)
		wantBlock0(t, p, w.list()...)
	case 1:
		mustStore(t, m, p)
		return mustLoad(t, p, w.blocks), toldOf(w.blocks, w.list())
	case 2, 3, 4, 5, 6, 7, 8, 9, 10:
		b := x.below(w.blocks+6) - 3
		wantErr(t, fmt.Sprintf("Free(%d)", b), m.Free(b), w.free(b))
	default:
		got, err := m.Take()
		want, wantError := w.take()
		if got != want || err != wantError {
			t.Errorf("Take = %d, error %d, want %d, error %d", got, err, want, wantError)
		}
	}
	return m, w
}

// P5.1 to P5.3: long walks over stores of many sizes, held against the words behind every step.
func TestAgainstTheWords(t *testing.T) {
	x := dice(1)
	for _, blocks := range []int{2, 3, 4, 7, 8, 9, 16, 17, 33, 64, 100} {
		p := mustMake(t, blocks)
		m, w := mustLoad(t, p, blocks), toldOf(blocks, []int{0, 1})
		for range 3000 {
			m, w = step(t, p, m, w, &x)
			wantTaken(t, m, blocks, w.list()...)
			if t.Failed() {
				t.Fatalf("a store of %d blocks", blocks)
			}
		}
	}
}

// P5.1 to P5.3: the greatest store, filled and given back in turns.
func TestTheGreatestStore(t *testing.T) {
	x := dice(2)
	p := mustMake(t, 4096)
	m, w := mustLoad(t, p, 4096), toldOf(4096, []int{0, 1})
	for round := range 12 {
		for range 3000 {
			if round%2 == 1 {
				b := x.below(4096)
				wantErr(t, "Free", m.Free(b), w.free(b))
				continue
			}
			got, err := m.Take()
			want, wantError := w.take()
			if got != want || err != wantError {
				t.Fatalf("Take = %d, error %d, want %d, error %d", got, err, want, wantError)
			}
		}
		mustStore(t, m, p)
		wantBlock0(t, p, w.list()...)
		if round%3 == 2 {
			m, w = mustLoad(t, p, 4096), toldOf(4096, w.list())
		}
		wantTaken(t, m, 4096, w.list()...)
	}
}

// begin opens a transaction of a pager.
func begin(t *testing.T, p *pager.Pager) *pager.Tx {
	t.Helper()
	x, err := p.Begin()
	if err != api.OK {
		t.Fatalf("Begin: error %d", err)
	}
	return x
}

func commit(t *testing.T, x *pager.Tx) {
	t.Helper()
	if _, err := x.Commit(); err != api.OK {
		t.Fatalf("Commit: error %d", err)
	}
}

// Types: a transaction of chapter 4 is Pages: what it gives back rests until it has ended, and what it doesn't commit isn't done.
func TestOnAPager(t *testing.T) {
	d := disk.New(20)
	p, err := pager.Make(d, 6)
	wantErr(t, "pager.Make", err, api.OK)
	x := begin(t, p)
	refuseLoad(t, x, p.Blocks(), api.ErrBad)
	wantErr(t, "Make", Make(x, p.Blocks()), api.OK)
	m := mustLoad(t, x, p.Blocks())
	mustTake(t, m, 2, 3)
	mustStore(t, m, x)
	if x.Dirty() != 1 {
		t.Errorf("%d blocks are dirty", x.Dirty())
	}
	commit(t, x)

	x = begin(t, p)
	m = mustLoad(t, x, p.Blocks())
	mustFree(t, m, 2)
	mustTake(t, m, 4)
	mustStore(t, m, x)
	x.Abort()
	wantErr(t, "Store of an ended transaction", m.Store(x), api.ErrNone)

	x = begin(t, p)
	m = mustLoad(t, x, p.Blocks())
	wantTaken(t, m, p.Blocks(), 0, 1, 2, 3)
	mustFree(t, m, 2)
	mustTake(t, m, 4)
	mustStore(t, m, x)
	commit(t, x)
	wantErr(t, "Sync", p.Sync(), api.OK)

	d.Crash(nil)
	p, err = pager.Open(d, 6)
	wantErr(t, "pager.Open", err, api.OK)
	x = begin(t, p)
	m = mustLoad(t, x, p.Blocks())
	wantTaken(t, m, p.Blocks(), 0, 1, 3, 4)
	mustTake(t, m, 2, 5)
	refuseLoad(t, x, 4, api.ErrBad)
	mustLoad(t, x, 5)
}

// P5.1, P5.3: what a transaction answers comes as it is: of one that is nil, one that has ended, and of a dead device.
func TestErrorsOfATransaction(t *testing.T) {
	d := disk.New(20)
	p, _ := pager.Make(d, 6)
	ended := begin(t, p)
	ended.Abort()
	m := fresh(t, 9)
	for _, x := range []*pager.Tx{nil, ended} {
		wantErr(t, "Make", Make(x, 9), api.ErrNone)
		refuseLoad(t, x, 9, api.ErrNone)
		wantErr(t, "Store", m.Store(x), api.ErrNone)
		wantErr(t, "Make of too few", Make(x, 1), api.ErrArg)
	}
	x := begin(t, p)
	d.Fuel(0)
	d.Flush()
	wantErr(t, "Make", Make(x, 9), api.ErrDead)
	refuseLoad(t, x, 9, api.ErrDead)
	wantErr(t, "Store", m.Store(x), api.ErrDead)
	refuseLoad(t, x, 4097, api.ErrArg)
}
