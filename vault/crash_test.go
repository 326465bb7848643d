package vault

import (
	"slices"
	"testing"

	"docket/api"
	"docket/disk"
)

// goOn holds that all calls do what they should, whatever has been.
func (h *held) goOn() {
	h.t.Helper()
	for i := range 2 {
		h.commit(op{key: "a", value: text(i, 600)}, op{key: "z", value: "z"}, op{key: "b", gone: true})
		h.look()
		h.abort(op{key: "a", value: text(i+5, 600)}, op{key: "z", gone: true})
		h.commit(op{key: "z", gone: true}, op{key: "b", value: text(i, 64)})
		h.sync()
		h.commit(op{key: "a", value: "lost?"}, op{key: "b", value: ""})
		h = h.crashed([]bool{i == 1, true, true})
	}
}

// keeps is every kind of what a crash keeps of so many writes that wait; of many just some kinds.
func keeps(waits int) [][]bool {
	var all [][]bool
	if waits <= 3 {
		for bits := range 1 << waits {
			keep := make([]bool, waits)
			for k := range keep {
				keep[k] = bits>>k&1 == 1
			}
			all = append(all, keep)
		}
		return all
	}
	for k := range waits {
		one := make([]bool, waits)
		one[k] = true
		others := slices.Repeat([]bool{true}, waits)
		others[k] = false
		all = append(all, one, others, slices.Repeat([]bool{true}, k))
	}
	return append(all, slices.Repeat([]bool{true}, waits))
}

type step func(h *held) bool

func commits(ops ...op) step { return func(h *held) bool { return h.commit(ops...) } }
func aborts(ops ...op) step  { return func(h *held) bool { return h.abort(ops...) } }
func syncs() step            { return func(h *held) bool { return h.sync() } }
func flushes() step          { return func(h *held) bool { return h.d.Flush() == api.OK } }

func (h *held) run(steps []step) bool {
	for _, do := range steps {
		if !do(h) {
			return false
		}
	}
	return true
}

// crashes lets the disk die at each write and each flush of the steps, and crash ahead of each step and behind the last
// one; and go on with what each crash leaves.
func crashes(h *held, steps []step, goOn func(next *held)) {
	h.t.Helper()
	behind := func(one *held) {
		for _, keep := range keeps(one.d.Pending()) {
			goOn(one.crashed(keep))
			if h.t.Failed() {
				h.t.FailNow()
			}
		}
	}
	for many := range len(steps) + 1 {
		one := h.crashed(nil)
		one.run(steps[:many])
		behind(one)
	}
	for fuel := 0; ; fuel++ {
		one := h.crashed(nil)
		one.d.Fuel(fuel)
		if one.run(steps) {
			return
		}
		behind(one)
	}
}

// round is steps that go round a small log, with values that are put, put anew and deleted, short ones and blobs.
func round() []step {
	return []step{
		commits(op{key: "a", value: "1"}), commits(op{key: "b", value: text(1, 64)}, op{key: "a", value: text(2, 600)}), syncs(),
		aborts(op{key: "a", value: "lost"}, op{key: "b", gone: true}), commits(op{key: "a", value: text(3, 600)}),
		commits(), commits(op{key: "b", gone: true}, op{key: "c", value: "3"}), flushes(),
		commits(op{key: "c", value: "3"}, op{key: "d", gone: true}), commits(op{key: "a", gone: true}), syncs(),
		commits(op{key: "a", value: text(4, 100)}, op{key: "c", gone: true}),
	}
}

// P8.6
func TestCrashAtEachWrite(t *testing.T) {
	t.Parallel()
	crashes(newHeld(t, 36, 12), round(), (*held).goOn)
	crashes(newHeld(t, 60, 30), append(round(), round()...), (*held).goOn)
}

// P8.6: crashes behind crashes.
func TestCrashBehindEachCrash(t *testing.T) {
	t.Parallel()
	steps := []step{commits(op{key: "a", value: text(1, 64)}), commits(op{key: "a", value: "x"})}
	crashes(newHeld(t, 26, 8), steps, func(next *held) {
		crashes(next, steps, (*held).look)
	})
}

// P8.6, P8.1: a disk that dies in Make: its OK alone promises a vault; but what lay there is found whole, or not at all,
// or as what was made.
func TestCrashInMake(t *testing.T) {
	old := newHeld(t, 30, 10)
	old.commit(op{key: "a", value: "x"})
	old.sync()
	other := newHeld(t, 30, 12)
	other.commit(op{key: "a", value: text(1, 700)})
	other.sync()
	for _, base := range []*disk.Disk{disk.New(30), old.d, other.d} {
		for fuel := 0; ; fuel++ {
			d := base.Clone()
			d.Fuel(fuel)
			v, err := Make(d, 10)
			if err == api.OK {
				d.Crash(nil)
				h := &held{t: t, d: d, log: 10, v: v, states: []map[string]string{{}}}
				h.crashed(nil).goOn()
				break
			}
			wantErr(t, "Make", err, api.ErrDead)
			if v != nil || !d.Dead() {
				t.Errorf("a vault beside ErrDead, or the disk isn't dead")
			}
			for _, keep := range keeps(d.Pending()) {
				c := d.Clone()
				c.Crash(keep)
				wantOldOrNew(t, c)
				h := &held{t: t, d: c, log: 10, v: mustMake(t, c, 10), states: []map[string]string{{}}}
				h.commit(op{key: "b", value: text(1, 700)})
				h.look()
			}
		}
	}
}

// wantOldOrNew holds that what a Make has left that died is no vault, an empty one, or the old one.
func wantOldOrNew(t *testing.T, d *disk.Disk) {
	t.Helper()
	v, err := Open(d, 10)
	switch {
	case err != api.OK:
		wantErr(t, "Open", err, api.ErrBad)
	case v.Done() == 0:
		wantNumbers(t, v, 0, 0)
		holds(t, v, nil)
	default:
		wantNumbers(t, v, 1, 1)
		holds(t, v, map[string]string{"a": "x"})
	}
}

// P8.6: a disk that dies in Open, in an Open behind that, or in what comes next.
func TestCrashInOpen(t *testing.T) {
	h := newHeld(t, 36, 12)
	h.run(round())
	for fuel := range 12 {
		d := h.d.Clone()
		d.Crash([]bool{true})
		for i := range 4 {
			d.Fuel(fuel)
			v, err := Open(d, 12)
			if err == api.OK {
				if v.Sync() == api.OK {
					x, _ := v.Begin()
					x.Abort()
				}
			} else {
				wantErr(t, "Open", err, api.ErrDead)
				if v != nil {
					t.Errorf("a vault beside ErrDead")
				}
			}
			d.Crash([]bool{i%2 == 0, true})
		}
		h.opened(d).goOn()
	}
}

// P8.2, P8.3, P8.5: each call of a vault whose disk has died by somebody else's write, and of its transaction, answers
// ErrDead, whether or not something lies there that it would read; and so it does when a crash has brought the disk back.
func TestDead(t *testing.T) {
	for i, ask := range []func(v *Vault, x *Tx) api.Errno{
		func(v *Vault, _ *Tx) api.Errno { return v.Sync() },
		func(v *Vault, _ *Tx) api.Errno { _, err := v.Begin(); return err },
		func(_ *Vault, x *Tx) api.Errno { _, _, err := x.Get("a"); return err },
		func(_ *Vault, x *Tx) api.Errno { return x.Put("a", "x") },
		func(_ *Vault, x *Tx) api.Errno { return x.Put("b", text(1, 700)) },
		func(_ *Vault, x *Tx) api.Errno { _, err := x.Delete("a"); return err },
		func(_ *Vault, x *Tx) api.Errno { _, err := x.Scan("", 9); return err },
		func(_ *Vault, x *Tx) api.Errno { _, err := x.Scan("", 0); return err },
		func(_ *Vault, x *Tx) api.Errno { _, err := x.Commit(); return err },
	} {
		for k := range 6 {
			pairs, changes := []int{0, 1, 9}[k/2], k%2 == 1
			h := newHeld(t, 60, 20)
			for k := range pairs {
				h.commit(op{key: string(rune('a' + k)), value: text(k, 60+k)})
			}
			w := h.begin()
			if changes {
				w.do(op{key: "a", value: "new"})
			}
			kill(t, h.d)
			refuseAll(t, h.v, api.ErrBusy)
			if err := ask(h.v, w.x); err != api.ErrDead {
				t.Errorf("call %d, with %d pairs: error %d", i, pairs, err)
			}
			for range 2 {
				if w.x.isOpen() {
					refuseAll(t, h.v, api.ErrBusy)
					wantDead(t, w.x)
				}
				h.d.Crash(nil)
			}
			w.x.Abort()
			wantEnded(t, w.x)
			h.dead()
			h.crashed(nil).goOn()
		}
	}
}

// wantDead holds what an open transaction answers whose disk is dead. The call that finds that out has good arguments.
func wantDead(t *testing.T, x *Tx) {
	t.Helper()
	_, _, err := x.Get("a")
	wantErr(t, "Get of a dead vault", err, api.ErrDead)
	refuse(t, x, api.ErrDead)
}

// P8.3: a commit under which the disk dies is ended by that.
func TestDeadCommit(t *testing.T) {
	for fuel := range 40 {
		h := newHeld(t, 60, 20)
		h.commit(op{key: "a", value: text(1, 700)})
		h.sync()
		h.commit(op{key: "b", value: text(1, 3000)})
		h.d.Fuel(fuel)
		if h.commit(op{key: "a", value: text(2, 3000)}) {
			if fuel < 10 {
				t.Errorf("a commit with a fuel of %d", fuel)
			}
			continue
		}
		h.d.Crash(nil)
		h.dead()
	}
}
