package pager

import (
	"slices"
	"testing"

	"docket/api"
	"docket/disk"
)

// held is a pager on a disk, and what the chapter's words say of it.
type held struct {
	t      *testing.T
	d      *disk.Disk
	log    int
	p      *Pager
	states [][]string // what the blocks hold behind each commit, from none on
	// A Commit was under way when the disk died: what it would have left.
	under []string
	// By the words a Sync or an Open has made them durable.
	synced int64
}

func newHeld(t *testing.T, sectors, log int) *held {
	d := disk.New(sectors)
	return &held{t: t, d: d, log: log, p: mustMake(t, d, log), states: [][]string{make([]string, sectors-log)}}
}

func (h *held) done() int64   { return int64(len(h.states) - 1) }
func (h *held) now() []string { return h.states[h.done()] }

// hold holds the pager against the words; commits may be synced without Sync.
func (h *held) hold() {
	h.t.Helper()
	if h.p.Done() != h.done() || h.p.Synced() < h.synced || h.p.Synced() > h.done() {
		h.t.Errorf("Done %d, Synced %d, want %d, and at least %d", h.p.Done(), h.p.Synced(), h.done(), h.synced)
	}
	h.synced = h.p.Synced()
	if h.p.Blocks() != len(h.now()) {
		h.t.Errorf("Blocks = %d", h.p.Blocks())
	}
}

// died holds that each call answers ErrDead, and that the numbers stay; x is a transaction that is open, or nil.
func (h *held) died(x *Tx) bool {
	h.t.Helper()
	if !h.d.Dead() {
		h.t.Errorf("ErrDead of a disk that isn't dead")
	}
	h.dead(x)
	return false
}

func (h *held) dead(x *Tx) {
	h.t.Helper()
	refuseBegin(h.t, h.p, api.ErrDead)
	wantErr(h.t, "Sync of a dead pager", h.p.Sync(), api.ErrDead)
	if x != nil {
		dirty := x.Dirty()
		for _, b := range []int{-1, 0, 1, len(h.now()) - 1, len(h.now())} {
			refuseRead(h.t, x, b, api.ErrDead)
			wantErr(h.t, "Write of a dead pager", x.Write(b, []byte("x")), api.ErrDead)
		}
		refuseCommit(h.t, x, api.ErrDead)
		wantDirty(h.t, x, dirty)
	}
	h.hold()
}

// change is what a transaction writes: blocks, by their numbers modulo how many there are.
type change struct {
	b    int
	text string
}

// commit does a whole transaction, holds what its calls answer, and tells whether the disk lives.
func (h *held) commit(changes ...change) bool {
	h.t.Helper()
	x := mustBegin(h.t, h.p)
	next := slices.Clone(h.now())
	written := map[int]struct{}{}
	for _, c := range changes {
		b := c.b % len(next)
		mustWrite(h.t, x, b, c.text)
		next[b] = c.text
		written[b] = struct{}{}
	}
	wantDirty(h.t, x, len(written))
	tooMuch := (16+520*len(written)+511)/512 > h.log-1
	number, err := x.Commit()
	switch {
	case err == api.ErrDead:
		if tooMuch || len(written) == 0 {
			h.t.Errorf("ErrDead of a commit that needs no disk")
		}
		h.under = next
		wantDirty(h.t, x, len(written))
		return h.died(x)
	case tooMuch:
		wantErr(h.t, "Commit of too much", err, api.ErrLog)
	case len(written) == 0:
		if err != api.OK || number != h.done() {
			h.t.Errorf("Commit of nothing: %d, error %d", number, err)
		}
	default:
		h.states = append(slices.Clip(h.states), next)
		if err != api.OK || number != h.done() {
			h.t.Errorf("Commit: %d, error %d, want %d", number, err, h.done())
		}
	}
	wantClosed(h.t, x)
	h.hold()
	return true
}

func (h *held) abort(changes ...change) bool {
	h.t.Helper()
	x := mustBegin(h.t, h.p)
	for _, c := range changes {
		mustWrite(h.t, x, c.b%len(h.now()), c.text)
	}
	x.Abort()
	wantClosed(h.t, x)
	h.hold()
	return true
}

func (h *held) sync() bool {
	h.t.Helper()
	err := h.p.Sync()
	if err == api.ErrDead {
		return h.died(nil)
	}
	wantErr(h.t, "Sync", err, api.OK)
	h.synced = h.done()
	h.hold()
	return true
}

// look holds all blocks against the words.
func (h *held) look() {
	h.t.Helper()
	holds(h.t, h.p, h.now()...)
}

// crashed tells what is there behind a crash, on a disk of its own, and holds it against what may be there.
func (h *held) crashed(keep []bool) *held {
	h.t.Helper()
	d := h.d.Clone()
	d.Crash(keep)
	return h.opened(d)
}

// opened opens what a crash has left on d.
func (h *held) opened(d *disk.Disk) *held {
	h.t.Helper()
	p, err := Open(d, h.log)
	if err != api.OK {
		h.t.Fatalf("Open behind a crash: error %d", err)
	}
	states := h.states
	if h.under != nil {
		states = append(slices.Clip(states), h.under)
	}
	k := p.Done()
	if k < h.synced || k >= int64(len(states)) {
		h.t.Fatalf("behind the crash there are %d commits, want from %d to %d", k, h.synced, len(states)-1)
	}
	next := &held{t: h.t, d: d, log: h.log, p: p, states: states[: k+1 : k+1], synced: k}
	wantNumbers(h.t, p, k, k)
	next.look()
	return next
}

// goOn holds that all calls do what they should, whatever has been.
func (h *held) goOn() {
	h.t.Helper()
	most := (h.log*512 - 512 - 16) / 520
	for i := range 2 {
		var changes []change
		for k := range most {
			changes = append(changes, change{i + 3*k, text(i+k, 100*i)})
		}
		h.commit(changes...)
		h.look()
		h.commit(change{i, text(i, 512)})
		h.look()
		h.sync()
		h.commit(change{i, "lost?"}, change{i + 1, ""})
		h = h.crashed([]bool{i == 1, i == 2, true})
	}
}

// keeps is every kind of what a crash keeps of so many writes that wait; of many just some kinds.
func keeps(waits int) [][]bool {
	var all [][]bool
	if waits <= 5 {
		for bits := range 1 << waits {
			keep := make([]bool, waits)
			for k := range keep {
				keep[k] = bits>>k&1 == 1
			}
			all = append(all, keep)
		}
		return all
	}
	for k := range waits {
		one := make([]bool, waits)
		one[k] = true
		others := slices.Repeat([]bool{true}, waits)
		others[k] = false
		all = append(all, one, others, slices.Repeat([]bool{true}, k))
	}
	return append(all, slices.Repeat([]bool{true}, waits))
}

type step func(h *held) bool

func commits(changes ...change) step { return func(h *held) bool { return h.commit(changes...) } }
func aborts(changes ...change) step  { return func(h *held) bool { return h.abort(changes...) } }
func syncs() step                    { return func(h *held) bool { return h.sync() } }
func flushes() step                  { return func(h *held) bool { return h.d.Flush() == api.OK } }

func (h *held) run(steps []step) bool {
	for _, do := range steps {
		if !do(h) {
			return false
		}
	}
	return true
}

// crashes lets the disk die at each write and each flush of the steps, and crash ahead of each step and behind the last one.
func crashes(h *held, steps []step, depth int) {
	h.t.Helper()
	behind := func(one *held) {
		for _, keep := range keeps(one.d.Pending()) {
			next := one.crashed(keep)
			if depth > 0 {
				crashes(next, steps, depth-1)
			} else {
				next.goOn()
			}
			if h.t.Failed() {
				h.t.FailNow()
			}
		}
	}
	for many := range len(steps) + 1 {
		one := h.crashed(nil)
		one.run(steps[:many])
		behind(one)
	}
	for fuel := 0; ; fuel++ {
		one := h.crashed(nil)
		one.d.Fuel(fuel)
		if one.run(steps) {
			return
		}
		behind(one)
	}
}

// round is steps that go round a log of five sectors, with commits that write the same blocks and others.
func round() []step {
	return []step{
		commits(change{0, "a"}), commits(change{1, text(1, 512)}, change{0, text(2, 512)}), syncs(),
		aborts(change{0, "lost"}, change{1, "lost"}), commits(change{0, "b"}, change{2, text(3, 400)}),
		commits(change{2, "c"}), commits(), commits(change{3, "d"}, change{4, text(4, 512)}, change{0, ""}), syncs(),
		commits(change{1, text(5, 5)}), commits(change{1, "e"}, change{3, text(6, 512)}),
	}
}

// P4.5
func TestCrashAtEachWrite(t *testing.T) {
	crashes(newHeld(t, 10, 5), round(), 0)
	crashes(newHeld(t, 14, 6), append(round(), round()...), 0)
	crashes(newHeld(t, 20, 13), append(round(), round()...), 0)
}

// P4.5: crashes behind crashes.
func TestCrashBehindEachCrash(t *testing.T) {
	steps := []step{commits(change{0, "a"}, change{1, "b"}), syncs(), commits(change{1, "c"}), commits(change{0, "d"})}
	crashes(newHeld(t, 8, 4), steps, 1)
	few := []step{commits(change{0, "x"}), commits(change{0, "y"})}
	crashes(newHeld(t, 5, 3), few, 2)
}

// P4.5: many commits by one sync; somebody's flush between makes none of them durable in part.
func TestCrashWithManyCommits(t *testing.T) {
	steps := []step{
		commits(change{0, "a"}), commits(change{1, "b"}), flushes(), commits(change{0, "c"}), flushes(), syncs(),
		commits(change{0, "d"}, change{1, "e"}), flushes(), commits(change{2, "f"}), commits(change{3, "g"}), flushes(),
	}
	crashes(newHeld(t, 12, 8), steps, 0)
}

// P4.5: a commit of many blocks.
func TestCrashInALongCommit(t *testing.T) {
	var long, other []change
	for b := range 14 {
		long = append(long, change{b, text(b, 512)})
		other = append(other, change{b + 5, text(b, 20)})
	}
	crashes(newHeld(t, 36, 16), []step{commits(long...), commits(other...), commits(change{0, "a"}), syncs(), commits(long...)}, 0)
}

// P4.1, P4.5: a disk that dies in Make, where no pager lay and where one did. Make's OK alone promises a pager;
// but what lay there is found whole, or not at all, or as what was made.
func TestCrashInMake(t *testing.T) {
	old := newHeld(t, 9, 5)
	old.run(round()[:9])
	if old.synced != 5 {
		t.Fatalf("of the old pager %d commits are synced", old.synced)
	}
	other := newHeld(t, 9, 4)
	other.run(round()[:3])
	for _, base := range []*disk.Disk{disk.New(9), junk(9), old.d, other.d} {
		for fuel := 0; ; fuel++ {
			d := base.Clone()
			d.Fuel(fuel)
			p, err := Make(d, 5)
			if err == api.OK {
				d.Crash(nil)
				h := &held{t: t, d: d, log: 5, p: p, states: [][]string{make([]string, 4)}}
				h.crashed(nil).goOn()
				break
			}
			wantErr(t, "Make", err, api.ErrDead)
			if p != nil || !d.Dead() {
				t.Errorf("a pager beside ErrDead, or the disk isn't dead")
			}
			for _, keep := range keeps(d.Pending()) {
				c := d.Clone()
				c.Crash(keep)
				wantOldOrNew(t, c, old)
				h := &held{t: t, d: c, log: 5, p: mustMake(t, c, 5), states: [][]string{make([]string, 4)}}
				h.goOn()
			}
		}
	}
}

// wantOldOrNew holds that what a Make has left that died is no pager, an empty one, or the old one.
func wantOldOrNew(t *testing.T, d *disk.Disk, old *held) {
	t.Helper()
	p, err := Open(d, old.log)
	switch {
	case err != api.OK:
		wantErr(t, "Open", err, api.ErrBad)
	case p.Done() == 0:
		holds(t, p)
	default:
		wantNumbers(t, p, 5, 5)
		holds(t, p, old.now()...)
	}
}

// P4.1, P4.5: a disk that dies in Open, in an Open behind that, or in what comes next.
func TestCrashInOpen(t *testing.T) {
	h := newHeld(t, 10, 5)
	h.run(round())
	for fuel := range 12 {
		d := h.d.Clone()
		d.Crash([]bool{true})
		for i := range 4 {
			d.Fuel(fuel)
			p, err := Open(d, 5)
			if err == api.OK {
				if p.Sync() == api.OK {
					x, _ := p.Begin()
					x.Abort()
				}
			} else {
				wantErr(t, "Open", err, api.ErrDead)
				if p != nil {
					t.Errorf("a pager beside ErrDead")
				}
			}
			d.Crash([]bool{i%2 == 0, true})
		}
		h.opened(d).goOn()
	}
}

// Types: a pager dies with its disk, and stays dead when a crash brings the disk back.
func TestDeadPagerStaysDead(t *testing.T) {
	for fuel := range 14 {
		h := newHeld(t, 10, 6)
		h.commit(change{0, "a"}, change{1, "b"})
		h.commit(change{1, "c"}, change{2, "d"})
		h.d.Fuel(fuel)
		x := mustBegin(t, h.p)
		mustWrite(t, x, 3, "e")
		mustWrite(t, x, 1, "f")
		if _, err := x.Commit(); err == api.OK {
			continue
		}
		h.dead(x)
		h.d.Crash(nil)
		pending := h.d.Pending()
		for _, fuel := range []int{-1, 100, 0} {
			h.d.Fuel(fuel)
			h.dead(x)
		}
		if h.d.Pending() != pending {
			t.Errorf("a dead pager has written")
		}
		x.Abort()
		wantClosed(t, x)
		refuseBegin(t, h.p, api.ErrDead)
	}
	h := newHeld(t, 10, 6)
	h.commit(change{0, "a"})
	h.d.Fuel(0)
	wantErr(t, "Sync", h.p.Sync(), api.ErrDead)
	h.d.Crash(nil)
	h.dead(nil)
}

// Types: so does one whose disk died by somebody else's write; whatever it is asked first, the answer is ErrDead.
func TestPagerOfADiskThatWasKilled(t *testing.T) {
	for i, ask := range []func(*Pager, *Tx) api.Errno{
		func(p *Pager, _ *Tx) api.Errno { return p.Sync() },
		func(p *Pager, _ *Tx) api.Errno { _, err := p.Begin(); return err },
		func(_ *Pager, x *Tx) api.Errno { _, err := x.Read(0); return err }, // dirty
		func(_ *Pager, x *Tx) api.Errno { _, err := x.Read(1); return err }, // in the log
		func(_ *Pager, x *Tx) api.Errno { _, err := x.Read(2); return err }, // at home
		func(_ *Pager, x *Tx) api.Errno { _, err := x.Read(-1); return err },
		func(_ *Pager, x *Tx) api.Errno { return x.Write(0, nil) },
		func(_ *Pager, x *Tx) api.Errno { return x.Write(0, make([]byte, 513)) },
		func(_ *Pager, x *Tx) api.Errno { return x.Write(99, nil) },
		func(_ *Pager, x *Tx) api.Errno { _, err := x.Commit(); return err },
	} {
		for _, dirty := range []int{0, 1, 9} {
			h := newHeld(t, 16, 6)
			h.commit(change{0, "a"}, change{1, "b"})
			h.sync()
			x := mustBegin(t, h.p)
			for b := range dirty {
				mustWrite(t, x, b, "dirty")
			}
			kill(t, h.d)
			if err := ask(h.p, x); err != api.ErrDead {
				t.Errorf("call %d, %d blocks dirty: error %d", i, dirty, err)
			}
			wantDirty(t, x, dirty)
			h.d.Crash(nil)
			h.dead(x)
			h.crashed(nil).goOn()
		}
	}
}

// dice throws the same numbers in each run.
type dice uint64

func (x *dice) below(n int) int {
	*x = *x*6364136223846793005 + 1442695040888963407
	return int(uint64(*x) >> 33 % uint64(n))
}

func (x *dice) changes(log int) []change {
	changes := make([]change, x.below(log+1))
	for i := range changes {
		changes[i] = change{x.below(1000), text(x.below(1000), x.below(513))}
	}
	return changes
}

func (x *dice) keep(waits int) []bool {
	keep := make([]bool, x.below(waits+2))
	for k := range keep {
		keep[k] = x.below(3) > 0
	}
	return keep
}

// walk does one thing, and tells whether the disk lives.
func (x *dice) walk(h *held) bool {
	switch x.below(12) {
	case 0, 1:
		return h.sync()
	case 2:
		return h.abort(x.changes(h.log)...)
	case 3:
		h.look()
		return true
	case 4:
		h.d.Fuel(x.below(40))
		return true
	case 5:
		return x.below(6) > 0
	default:
		return h.commit(x.changes(h.log)...)
	}
}

// P4.1 to P4.5: long walks with logs and blocks of many sizes, with a fuel that ends anywhere, and crashes that keep anything.
func TestAgainstTheWords(t *testing.T) {
	x := dice(1)
	for log := 2; log < 16; log++ {
		h := newHeld(t, log+1+x.below(2*log), log)
		for range 1500 {
			if !x.walk(h) {
				h = h.crashed(x.keep(h.d.Pending()))
			}
			if t.Failed() {
				t.Fatalf("with a log of %d sectors", log)
			}
		}
	}
}
