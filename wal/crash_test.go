package wal

import (
	"slices"
	"testing"

	"docket/api"
	"docket/disk"
)

// held is a log on a disk, and what the chapter's words say of it.
type held struct {
	t       *testing.T
	d       *disk.Disk
	from, n int
	l       *Log
	batches [][]string // all that were appended, by their numbers less 1
	first   int64
	synced  int64
	// What Open may tell behind a crash now, as First and as Synced: two of each, where a call was under way.
	firsts, synceds []int64
}

func newHeld(t *testing.T, sectors, from, n int) *held {
	d := disk.New(sectors)
	return &held{t: t, d: d, from: from, n: n, l: mustMake(t, d, from, n), first: 1}
}

func (h *held) last() int64 { return int64(len(h.batches)) }

func (h *held) room() int {
	room := h.n - 1
	for _, batch := range h.batches[h.first-1:] {
		room -= Need(batch...)
	}
	return room
}

// hold holds the log against the words.
func (h *held) hold() {
	h.t.Helper()
	wantNumbers(h.t, h.l, h.first, h.last(), h.synced, h.room())
}

// died holds a log whose disk has died in a call that would have left first and synced.
func (h *held) died(first, synced int64) bool {
	h.t.Helper()
	h.firsts, h.synceds = []int64{h.first, first}, []int64{h.synced, synced}
	if !h.d.Dead() {
		h.t.Errorf("ErrDead of a disk that isn't dead")
	}
	h.dead()
	return false
}

// dead holds that each call answers ErrDead, and that the numbers stay.
func (h *held) dead() {
	h.t.Helper()
	refuse(h.t, h.l, api.ErrDead, "a")
	refuse(h.t, h.l, api.ErrDead)
	wantErr(h.t, "Sync of a dead log", h.l.Sync(), api.ErrDead)
	wantErr(h.t, "Trim of a dead log", h.l.Trim(0), api.ErrDead)
	wantErr(h.t, "Trim of a dead log", h.l.Trim(-1), api.ErrDead)
	h.hold()
}

// append, sync and trim do one call, hold what it answers, and tell whether the disk lives.
func (h *held) append(batch ...string) bool {
	h.t.Helper()
	number, err := h.l.Append(batch...)
	switch {
	case err == api.ErrDead:
		return h.died(h.first, h.synced)
	case Need(batch...) > h.room():
		wantErr(h.t, "Append", err, api.ErrSpace)
	case err != api.OK || number != h.last()+1:
		h.t.Errorf("Append: %d, error %d, want %d", number, err, h.last()+1)
	default:
		h.batches = append(slices.Clip(h.batches), slices.Clone(batch))
	}
	h.hold()
	return true
}

func (h *held) sync() bool {
	h.t.Helper()
	err := h.l.Sync()
	if err == api.ErrDead {
		return h.died(h.first, h.last())
	}
	wantErr(h.t, "Sync", err, api.OK)
	h.synced = h.last()
	h.hold()
	return true
}

func (h *held) trim(upto int64) bool {
	h.t.Helper()
	err := h.l.Trim(upto)
	switch {
	case err == api.ErrDead:
		return h.died(max(h.first, upto+1), h.synced)
	case upto < 0 || upto > h.synced:
		wantErr(h.t, "Trim", err, api.ErrArg)
	default:
		wantErr(h.t, "Trim", err, api.OK)
		h.first = max(h.first, upto+1)
	}
	h.hold()
	return true
}

// crashed tells what is there behind a crash, on a disk of its own, and holds it against what may be there.
func (h *held) crashed(keep []bool) *held {
	h.t.Helper()
	firsts, synceds := h.firsts, h.synceds
	if !h.d.Dead() {
		firsts, synceds = []int64{h.first}, []int64{h.synced}
	}
	next := &held{t: h.t, d: h.d.Clone(), from: h.from, n: h.n}
	next.d.Crash(keep)
	l, batches := mustOpen(h.t, next.d, h.from, h.n)
	if !slices.Contains(firsts, l.First()) || !slices.Contains(synceds, l.Synced()) {
		h.t.Fatalf("behind the crash: First %d, Synced %d, want one of %d, one of %d", l.First(), l.Synced(), firsts, synceds)
	}
	next.l, next.first, next.synced = l, l.First(), l.Synced()
	next.batches = h.batches[:next.synced:next.synced]
	wantBatches(h.t, batches, next.batches[next.first-1:]...)
	next.hold()
	return next
}

// again is the same on another disk; nothing may wait for a flush.
func (h *held) again() *held {
	h.t.Helper()
	return h.crashed(nil)
}

// goOn holds that all calls do what they should, whatever has been.
func (h *held) goOn() {
	h.t.Helper()
	for i := range 3 {
		h.append(text(i, 100*i), "on")
		h.append(text(i, 600))
		h.sync()
		h = h.crashed(nil)
		h.trim(h.last() - int64(i))
		h.append("lost")
		h = h.crashed(nil)
	}
	h.trim(h.last())
	h.append(slices.Repeat([]string{text(5, 508)}, h.n-2)...)
	h.sync()
	h.crashed([]bool{true})
}

// keeps is every kind of what a crash keeps of so many writes that wait; of many just some kinds.
func keeps(waits int) [][]bool {
	var all [][]bool
	if waits <= 6 {
		for bits := range 1 << waits {
			keep := make([]bool, waits)
			for k := range keep {
				keep[k] = bits>>k&1 == 1
			}
			all = append(all, keep)
		}
		return all
	}
	for k := range waits {
		one := make([]bool, waits)
		one[k] = true
		others := slices.Repeat([]bool{true}, waits)
		others[k] = false
		all = append(all, one, others, slices.Repeat([]bool{true}, k))
	}
	return append(all, slices.Repeat([]bool{true}, waits))
}

type step func(h *held) bool

func appends(batch ...string) step { return func(h *held) bool { return h.append(batch...) } }
func syncs() step                  { return func(h *held) bool { return h.sync() } }
func flushes() step                { return func(h *held) bool { h.d.Flush(); return true } }

// trims trims up to so many batches below Synced.
func trims(less int64) step { return func(h *held) bool { return h.trim(h.synced - less) } }

func (h *held) run(steps []step) bool {
	for _, do := range steps {
		if !do(h) {
			return false
		}
	}
	return true
}

// crashes lets the disk die at each write and each flush of the steps, and crash ahead of each step and behind the last one.
func crashes(h *held, steps []step, depth int) {
	h.t.Helper()
	behind := func(one *held) {
		for _, keep := range keeps(one.d.Pending()) {
			next := one.crashed(keep)
			if depth > 0 {
				crashes(next, steps, depth-1)
			} else {
				next.goOn()
			}
			if h.t.Failed() {
				h.t.FailNow()
			}
		}
	}
	for many := range len(steps) + 1 {
		one := h.again()
		one.run(steps[:many])
		behind(one)
	}
	for fuel := 0; ; fuel++ {
		one := h.again()
		one.d.Fuel(fuel)
		if one.run(steps) {
			return
		}
		behind(one)
	}
}

// round is steps that go round a ring of four sectors, with batches that lie across its end.
func round() []step {
	return []step{
		appends("a"), appends(text(1, 600)), syncs(), trims(1), appends("b", "c"), syncs(), trims(0),
		appends(text(2, 600), text(3, 508)), syncs(), appends(""), trims(0), appends(text(4, 509)), syncs(), trims(1), trims(0),
	}
}

// P3.5
func TestCrashAtEachWrite(t *testing.T) {
	crashes(newHeld(t, 8, 2, 5), round(), 0)
	crashes(newHeld(t, 5, 0, 5), round(), 0)
	crashes(newHeld(t, 9, 0, 9), append(round(), round()...), 0)
}

// P3.5: crashes behind crashes: what each of them left in the ring comes up in none of the next.
func TestCrashBehindEachCrash(t *testing.T) {
	steps := []step{appends("a"), syncs(), appends("b", text(1, 600)), trims(0), appends("c"), syncs(), trims(1)}
	crashes(newHeld(t, 6, 1, 5), steps, 1)
	few := []step{appends("a", text(1, 500)), syncs(), trims(0), appends("b")}
	crashes(newHeld(t, 4, 0, 4), few, 2)
}

// P3.5: many batches by one sync; somebody's flush between makes nothing synced.
func TestCrashWithManyBatches(t *testing.T) {
	steps := []step{
		appends("a"), appends("b"), flushes(), appends("c"), appends(text(1, 600)), syncs(),
		appends("d"), flushes(), trims(2), appends("e", text(2, 600)), appends("f"), flushes(), syncs(), trims(3), flushes(),
	}
	crashes(newHeld(t, 12, 3, 9), steps, 0)
}

// P3.5: a batch of many sectors.
func TestCrashInALongBatch(t *testing.T) {
	long := slices.Repeat([]string{text(1, 508)}, 19)
	crashes(newHeld(t, 32, 1, 30), []step{appends("a"), appends(long...), syncs(), trims(0), appends(long...), syncs(), trims(0)}, 0)
}

// P3.2, P3.5: a disk that dies in Make, where no log lay and where one did; Make's OK alone promises a log.
func TestCrashInMake(t *testing.T) {
	fresh := disk.New(8)
	old := newHeld(t, 8, 2, 5)
	old.run(round())
	other := newHeld(t, 8, 2, 4)
	other.run(round()[:3])
	for _, base := range []*disk.Disk{fresh, old.d, other.d} {
		for fuel := 0; ; fuel++ {
			d := base.Clone()
			d.Fuel(fuel)
			l, err := Make(d, 2, 5)
			if err == api.OK {
				d.Crash(nil)
				h := &held{t: t, d: d, from: 2, n: 5, l: l, first: 1}
				crashes(h.crashed(nil), round(), 0)
				break
			}
			wantErr(t, "Make", err, api.ErrDead)
			if l != nil || !d.Dead() {
				t.Errorf("a log beside ErrDead, or the disk isn't dead")
			}
			for _, keep := range keeps(d.Pending()) {
				c := d.Clone()
				c.Crash(keep)
				if _, _, err := Open(c, 2, 5); err != api.OK {
					wantErr(t, "Open", err, api.ErrBad)
				}
				h := &held{t: t, d: c, from: 2, n: 5, l: mustMake(t, c, 2, 5), first: 1}
				h.goOn()
			}
		}
	}
}

// P3.2, P3.5: a disk that dies in Open, or in an Open behind that; what is there stays there.
func TestCrashInOpen(t *testing.T) {
	base := newHeld(t, 8, 2, 5)
	base.run(round()[:8])
	for fuel := range 6 {
		d := base.d.Clone()
		for range 3 {
			d.Fuel(fuel)
			l, batches, err := Open(d, 2, 5)
			if err == api.OK {
				wantBatches(t, batches, base.batches[base.first-1:base.synced]...)
				continue
			}
			wantErr(t, "Open", err, api.ErrDead)
			if l != nil || len(batches) != 0 {
				t.Errorf("a log or batches beside ErrDead")
			}
			d.Crash([]bool{fuel%2 == 0})
		}
		(&held{t: t, d: d, from: 2, n: 5, l: base.l, batches: base.batches, first: base.first, synced: base.synced}).crashed(nil).goOn()
	}
}

// Types: a log dies with its disk, and stays dead when a crash brings the disk back.
func TestDeadLogStaysDead(t *testing.T) {
	for fuel := range 3 {
		for _, do := range []func(*Log) api.Errno{
			func(l *Log) api.Errno { _, err := l.Append(text(1, 600), text(2, 600)); return err },
			(*Log).Sync,
			func(l *Log) api.Errno { return l.Trim(1) },
		} {
			h := newHeld(t, 9, 2, 7)
			h.append("a")
			h.sync()
			h.append("b")
			h.d.Fuel(fuel)
			if err := do(h.l); err == api.OK {
				continue // a Trim, that takes less
			}
			next := &held{t: t, d: h.d.Clone(), from: 2, n: 7, batches: h.batches, first: 1, synced: 1}
			next.firsts, next.synceds = []int64{1, 2}, []int64{1, 2}
			next = next.crashed(nil)
			h.d.Crash(nil)
			h.dead()
			h.d.Fuel(-1)
			h.dead()
			if h.d.Pending() != 0 {
				t.Errorf("a dead log has written")
			}
			next.goOn()
		}
	}
}

// Types: so does one whose disk died by somebody else's write; whatever it is asked first, the answer is ErrDead.
func TestLogOfADiskThatWasKilled(t *testing.T) {
	for _, ask := range []func(*Log) api.Errno{
		func(l *Log) api.Errno { _, err := l.Append("x"); return err },
		func(l *Log) api.Errno { _, err := l.Append(); return err },
		func(l *Log) api.Errno { _, err := l.Append(slices.Repeat([]string{text(1, 600)}, 100)...); return err },
		(*Log).Sync,
		func(l *Log) api.Errno { return l.Trim(-1) },
		func(l *Log) api.Errno { return l.Trim(0) },
		func(l *Log) api.Errno { return l.Trim(1) },
		func(l *Log) api.Errno { return l.Trim(2) },
	} {
		h := newHeld(t, 8, 2, 5)
		h.append("a")
		h.sync()
		kill(t, h.d)
		wantErr(t, "a call", ask(h.l), api.ErrDead)
		h.hold()
		h.d.Crash(nil)
		h.dead()
		h.again().goOn()
	}
}

// dice throws the same numbers in each run.
type dice uint64

func (x *dice) below(n int) int {
	*x = *x*6364136223846793005 + 1442695040888963407
	return int(uint64(*x) >> 33 % uint64(n))
}

func (x *dice) batch() []string {
	batch := make([]string, 1+x.below(1+x.below(5)))
	for i := range batch {
		batch[i] = text(x.below(1000), x.below(601)>>x.below(8))
	}
	return batch
}

func (x *dice) keep(waits int) []bool {
	keep := make([]bool, x.below(waits+2))
	for k := range keep {
		keep[k] = x.below(3) > 0
	}
	return keep
}

// walk does one thing, and tells whether the disk lives.
func (x *dice) walk(h *held) bool {
	switch x.below(12) {
	case 0, 1:
		return h.sync()
	case 2:
		return h.trim(h.synced - int64(x.below(4)))
	case 3:
		return h.trim(h.last() - int64(x.below(9)) + 2)
	case 4:
		h.d.Fuel(x.below(25))
		return true
	case 5:
		return x.below(6) > 0
	default:
		return h.append(x.batch()...)
	}
}

// P3.2 to P3.5: long walks on rings of many sizes, with a fuel that ends anywhere, and crashes that keep anything.
func TestAgainstTheWords(t *testing.T) {
	x := dice(1)
	for n := 2; n < 20; n++ {
		h := newHeld(t, n+5, x.below(6), n)
		for range 3000 {
			if !x.walk(h) {
				h = h.crashed(x.keep(h.d.Pending()))
			}
			if t.Failed() {
				t.Fatalf("on a region of %d sectors", n)
			}
		}
	}
}
