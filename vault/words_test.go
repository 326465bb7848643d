package vault

import (
	"maps"
	"math"
	"testing"

	"docket/api"
	"docket/disk"
)

// held is a vault on a disk, and what the chapter's words say of it.
type held struct {
	t      *testing.T
	d      *disk.Disk
	log    int
	v      *Vault
	states []map[string]string // the pairs behind each commit, from none on
	// A Commit was under way when the disk died: what it would have left.
	under map[string]string
	// By the words a Sync or an Open has made them durable.
	synced int64
}

func newHeld(t *testing.T, sectors, log int) *held {
	t.Helper()
	d := disk.New(sectors)
	return &held{t: t, d: d, log: log, v: mustMake(t, d, log), states: []map[string]string{{}}}
}

func (h *held) done() int64            { return int64(len(h.states) - 1) }
func (h *held) now() map[string]string { return h.states[h.done()] }

// numbers holds the vault's numbers against the words; commits may be synced without Sync.
func (h *held) numbers() {
	h.t.Helper()
	if h.v.Done() != h.done() || h.v.Synced() < h.synced || h.v.Synced() > h.done() {
		h.t.Errorf("Done %d, Synced %d, want %d, and at least %d", h.v.Done(), h.v.Synced(), h.done(), h.synced)
	}
	h.synced = h.v.Synced()
	if h.v.Blocks() != h.d.Size()-h.log {
		h.t.Errorf("Blocks = %d", h.v.Blocks())
	}
}

// look holds all of the vault against the words.
func (h *held) look() {
	h.t.Helper()
	h.numbers()
	holds(h.t, h.v, h.now())
}

// work is a transaction, and what the words say of it.
type work struct {
	*held
	x       *Tx
	pairs   map[string]string
	reached map[api.Pair]int // the costs of those that there were, and that it has put
	put     map[api.Pair]int // of those that it has put
	calls   int              // Puts and Deletes
	changed bool
	spoilt  bool
}

func (h *held) begin() *work {
	h.t.Helper()
	w := &work{held: h, x: mustBegin(h.t, h.v), pairs: maps.Clone(h.now()), reached: map[api.Pair]int{}, put: map[api.Pair]int{}}
	for key, value := range w.pairs {
		w.reached[api.Pair{Key: key, Value: value}] = costOf(value)
	}
	return w
}

func total(costs map[api.Pair]int) int {
	sum := 0
	for _, cost := range costs {
		sum += cost
	}
	return sum
}

// noSpace notes that there was no room, if the words allow that.
func (w *work) noSpace() {
	w.t.Helper()
	if 4*total(w.reached)+48 <= w.v.Blocks() {
		w.t.Errorf("ErrSpace, with costs of %d on %d blocks", total(w.reached), w.v.Blocks())
	}
	w.spoilt = true
	refuse(w.t, w.x, api.ErrSpace)
}

func (w *work) give(key, value string) {
	w.t.Helper()
	pair := api.Pair{Key: key, Value: value}
	w.put[pair] = costOf(value)
	w.reached[pair] = costOf(value)
	w.calls++
	err := w.x.Put(key, value)
	if err == api.ErrSpace {
		w.noSpace()
		return
	}
	wantErr(w.t, "Put", err, api.OK)
	was, there := w.pairs[key]
	w.changed = w.changed || !there || was != value
	w.pairs[key] = value
	wantGet(w.t, w.x, key, value)
}

func (w *work) take(key string) {
	w.t.Helper()
	w.calls++
	was, err := w.x.Delete(key)
	if err == api.ErrSpace {
		w.noSpace()
		return
	}
	_, there := w.pairs[key]
	if err != api.OK || was != there {
		w.t.Errorf("Delete = %t, error %d, want %t", was, err, there)
	}
	w.changed = w.changed || there
	delete(w.pairs, key)
	wantNo(w.t, w.x, key)
}

// op is what a transaction does: it gives a key a value, or (gone) takes it away.
type op struct {
	key, value string
	gone       bool
}

func (w *work) do(ops ...op) {
	w.t.Helper()
	for _, o := range ops {
		switch {
		case w.spoilt:
			return
		case o.gone:
			w.take(o.key)
		default:
			w.give(o.key, o.value)
		}
	}
}

// commit ends the transaction, and tells whether the disk lives.
func (w *work) commit() bool {
	w.t.Helper()
	number, err := w.x.Commit()
	wantEnded(w.t, w.x)
	switch {
	case w.spoilt:
		wantErr(w.t, "Commit of a spoilt one", err, api.ErrSpace)
	case err == api.ErrDead:
		if !w.changed {
			w.t.Errorf("ErrDead of a commit that needs no disk")
		}
		w.under = w.pairs
		return w.died()
	case err == api.ErrLog:
		if need := 4*total(w.put) + 64*w.calls + 32; need <= w.log || !w.changed {
			w.t.Errorf("ErrLog: %d sectors of log, of which by the words %d are enough", w.log, need)
		}
	default:
		if w.changed {
			w.states = append(w.states[:len(w.states):len(w.states)], w.pairs)
		}
		if err != api.OK || number != w.done() {
			w.t.Errorf("Commit = %d, error %d, want %d", number, err, w.done())
		}
	}
	w.numbers()
	wantErr(w.t, "Check", w.v.Check(), api.OK)
	return true
}

// commit does a whole transaction, and tells whether the disk lives.
func (h *held) commit(ops ...op) bool {
	h.t.Helper()
	w := h.begin()
	w.do(ops...)
	return w.commit()
}

func (h *held) abort(ops ...op) bool {
	h.t.Helper()
	w := h.begin()
	w.do(ops...)
	w.x.Abort()
	wantEnded(h.t, w.x)
	h.numbers()
	wantErr(h.t, "Check", h.v.Check(), api.OK)
	return true
}

func (h *held) sync() bool {
	h.t.Helper()
	err := h.v.Sync()
	if err == api.ErrDead {
		return h.died()
	}
	wantErr(h.t, "Sync", err, api.OK)
	h.synced = h.done()
	h.numbers()
	return true
}

// died holds that each call answers ErrDead, and that the numbers stay.
func (h *held) died() bool {
	h.t.Helper()
	if !h.d.Dead() {
		h.t.Errorf("ErrDead of a disk that isn't dead")
	}
	h.dead()
	return false
}

func (h *held) dead() {
	h.t.Helper()
	refuseBegin(h.t, h.v, api.ErrDead)
	wantErr(h.t, "Sync of a dead vault", h.v.Sync(), api.ErrDead)
	refuseAll(h.t, h.v, api.ErrDead)
	h.numbers()
}

// crashed tells what is there behind a crash, on a disk of its own, and holds it against what may be there.
func (h *held) crashed(keep []bool) *held {
	h.t.Helper()
	d := h.d.Clone()
	d.Crash(keep)
	return h.opened(d)
}

// opened opens what a crash has left on d.
func (h *held) opened(d *disk.Disk) *held {
	h.t.Helper()
	v, err := Open(d, h.log)
	if err != api.OK {
		h.t.Fatalf("Open behind a crash: error %d", err)
	}
	states := h.states
	if h.under != nil {
		states = append(states[:len(states):len(states)], h.under)
	}
	k := v.Done()
	if k < h.synced || k >= int64(len(states)) || v.Synced() != k {
		h.t.Fatalf("behind the crash there are %d commits, %d of them synced, want from %d to %d", k, v.Synced(), h.synced, len(states)-1)
	}
	next := &held{t: h.t, d: d, log: h.log, v: v, states: states[: k+1 : k+1], synced: k}
	next.look()
	return next
}

// dice throws the same numbers in each run.
type dice uint64

func (x *dice) below(n int) int {
	*x = *x*6364136223846793005 + 1442695040888963407
	return int(uint64(*x) >> 33 % uint64(n))
}

func (x *dice) keep(waits int) []bool {
	keep := make([]bool, x.below(waits+2))
	for k := range keep {
		keep[k] = x.below(3) > 0
	}
	return keep
}

// key is one of so many, of any length.
func (x *dice) key(many int) string {
	i := x.below(many)
	size := 1 + i*37%128
	return (string(rune('A'+i%50)) + text(i, 128))[:size]
}

// value is a text that is short, as often as not, or of a length at which something changes, or of any one.
func (x *dice) value(most int) string {
	size := x.below(most + 1)
	switch x.below(8) {
	case 0, 1, 2, 3:
		size = x.below(65)
	case 4:
		size = x.below(3)*512 + x.below(3)
	}
	return text(x.below(5), min(size, most))
}

func (x *dice) ops(keys, most int) []op {
	ops := make([]op, x.below(6))
	for i := range ops {
		ops[i] = op{x.key(keys), x.value(most), x.below(3) == 0}
	}
	return ops
}

// walk does one thing, and tells whether the disk lives.
func (x *dice) walk(h *held, keys, most int) bool {
	switch x.below(14) {
	case 0:
		return h.sync()
	case 1, 2:
		return h.abort(x.ops(keys, most)...)
	case 3:
		h.look()
		return true
	case 4:
		h.d.Fuel(x.below(200))
		return true
	case 5:
		return x.below(6) > 0
	default:
		return h.commit(x.ops(keys, most)...)
	}
}

// P8.1 to P8.6: long walks on vaults of many sizes, with little room and much, with a fuel that ends anywhere, and crashes
// that keep anything.
func TestAgainstTheWords(t *testing.T) {
	t.Parallel()
	x := dice(1)
	for i := range 36 {
		log := 6 + x.below([]int{1, 10, 40, 200}[i%4])
		blocks := 8 + x.below([]int{10, 60, 500}[i%3])
		keys, most := 1+x.below([]int{4, 12, 100}[i%3]), []int{64, 600, 3000, 20000}[i%4]
		h := newHeld(t, log+blocks, log)
		for range 250 {
			if !x.walk(h, keys, most) {
				h = h.crashed(x.keep(h.d.Pending()))
			}
			if t.Failed() {
				t.Fatalf("in the walk %d, with a log of %d sectors and %d blocks", i, log, blocks)
			}
		}
	}
}

// P8.2, P8.3, P8.5: a vault of many keys, put and deleted in all sorts of orders.
func TestManyKeys(t *testing.T) {
	h := newHeld(t, 4096, 700)
	x := dice(7)
	for i := range 60 {
		var ops []op
		for range 40 {
			ops = append(ops, op{text(x.below(2000), 1+x.below(40)), text(x.below(9), x.below(100)), x.below(4) == 0})
		}
		h.commit(ops...)
		if i%10 == 9 {
			h.look()
			h.sync()
			h = h.crashed(nil)
		}
	}
	for len(h.now()) > 0 {
		var ops []op
		for _, pair := range pairsOf(h.now(), "", math.MaxInt)[:min(60, len(h.now()))] {
			ops = append(ops, op{pair.Key, "", true})
		}
		h.commit(ops...)
		if t.Failed() {
			t.FailNow()
		}
	}
	h.look()
	wantUsed(t, h.v, 2)
}
