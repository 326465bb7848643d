package disk

import (
	"bytes"
	"math"
	"slices"
	"strings"
	"testing"

	"docket/api"
)

// zeros is a sector that nothing was written to.
const zeros = ""

// sector is text and the zeros behind it.
func sector(text string) []byte {
	s := make([]byte, 512)
	copy(s, text)
	return s
}

func wantErr(t *testing.T, what string, got, want api.Errno) {
	t.Helper()
	if got != want {
		t.Errorf("%s: error %d, want %d", what, got, want)
	}
}

func wantRead(t *testing.T, d *Disk, i int, text string) {
	t.Helper()
	got, err := d.Read(i)
	if err != api.OK || !bytes.Equal(got, sector(text)) {
		t.Errorf("Read(%d) = %.20q.. (%d bytes), %d, want %.20q..", i, got, len(got), err, text)
	}
}

func wantDurable(t *testing.T, d *Disk, i int, text string) {
	t.Helper()
	got, err := d.Durable(i)
	if err != api.OK || !bytes.Equal(got, sector(text)) {
		t.Errorf("Durable(%d) = %.20q.. (%d bytes), %d, want %.20q..", i, got, len(got), err, text)
	}
}

func wantPending(t *testing.T, d *Disk, want int) {
	t.Helper()
	if got := d.Pending(); got != want {
		t.Errorf("Pending = %d, want %d", got, want)
	}
}

func wantDead(t *testing.T, d *Disk, want bool) {
	t.Helper()
	if got := d.Dead(); got != want {
		t.Errorf("Dead = %v, want %v", got, want)
	}
}

// wantNothing holds an answer beside an error against the zero value.
func wantNothing(t *testing.T, what string, data []byte, got, want api.Errno) {
	t.Helper()
	wantErr(t, what, got, want)
	if data != nil {
		t.Errorf("%s: %d bytes beside an error", what, len(data))
	}
}

func put(t *testing.T, d *Disk, i int, text string) {
	t.Helper()
	wantErr(t, "Write", d.Write(i, []byte(text)), api.OK)
}

func flush(t *testing.T, d *Disk) {
	t.Helper()
	wantErr(t, "Flush", d.Flush(), api.OK)
}

// kill lets the disk die at a write.
func kill(t *testing.T, d *Disk) {
	t.Helper()
	d.Fuel(0)
	wantErr(t, "Write without fuel", d.Write(0, []byte("lost")), api.ErrDead)
	wantDead(t, d, true)
}

// The chapter's examples.
func TestExamples(t *testing.T) {
	d := New(4)
	put(t, d, 1, "a")
	put(t, d, 1, "b")
	wantPending(t, d, 2)
	wantRead(t, d, 1, "b")
	wantDurable(t, d, 1, zeros)
	d.Crash([]bool{true})
	wantRead(t, d, 1, "a")

	put(t, d, 2, "x")
	flush(t, d)
	put(t, d, 2, "y")
	d.Crash(nil)
	wantRead(t, d, 2, "x")

	d.Fuel(1)
	put(t, d, 0, "p")
	wantErr(t, "Write(0, q)", d.Write(0, []byte("q")), api.ErrDead)
	_, err := d.Read(0)
	wantErr(t, "Read(0)", err, api.ErrDead)
	d.Crash([]bool{true})
	wantRead(t, d, 0, "p")
	wantErr(t, "Write(4, x)", d.Write(4, []byte("x")), api.ErrArg)
}

// P2.1: how many sectors there are, at the limits and beyond them.
func TestSizes(t *testing.T) {
	for _, c := range []struct{ asked, want int }{
		{math.MinInt, 1}, {-1, 1}, {0, 1}, {1, 1}, {2, 2}, {300, 300},
		{4095, 4095}, {4096, 4096}, {4097, 4096}, {math.MaxInt, 4096},
	} {
		d := New(c.asked)
		if got := d.Size(); got != c.want {
			t.Errorf("New(%d): Size = %d, want %d", c.asked, got, c.want)
		}
		last := c.want - 1
		wantRead(t, d, 0, zeros)
		wantRead(t, d, last, zeros)
		wantDurable(t, d, last, zeros)
		put(t, d, last, "end")
		wantRead(t, d, last, "end")
		wantErr(t, "Write behind the end", d.Write(c.want, nil), api.ErrArg)
	}
}

// P2.1: a new disk is all zero, not dead, waits for nothing, and its fuel has no number.
func TestNewDisk(t *testing.T) {
	d := New(5)
	wantPending(t, d, 0)
	wantDead(t, d, false)
	for i := range 5 {
		wantRead(t, d, i, zeros)
		wantDurable(t, d, i, zeros)
	}
	for range 3000 {
		put(t, d, 3, "again")
		flush(t, d)
	}
	wantDead(t, d, false)
}

// P2.1, P2.2, P2.4: there is no sector i.
func TestNoSector(t *testing.T) {
	for _, i := range []int{math.MinInt, -513, -1, 4, 5, 4096, math.MaxInt} {
		d := New(4)
		data, err := d.Read(i)
		wantNothing(t, "Read", data, err, api.ErrArg)
		data, err = d.Durable(i)
		wantNothing(t, "Durable", data, err, api.ErrArg)
		wantErr(t, "Write", d.Write(i, []byte("x")), api.ErrArg)
		wantErr(t, "Write of too much", d.Write(i, make([]byte, 513)), api.ErrArg)
		wantPending(t, d, 0)
		for k := range 4 {
			wantRead(t, d, k, zeros)
		}
	}
}

// P2.2: data of each sort of length; what is shorter has zeros behind it, whatever lay there ahead.
func TestLengths(t *testing.T) {
	full := strings.Repeat("\xff", 512)
	for _, n := range []int{0, 1, 2, 255, 256, 511, 512} {
		text := strings.Repeat("q", n)
		d := New(2)
		put(t, d, 0, full)
		put(t, d, 0, text)
		wantRead(t, d, 0, text)
		wantRead(t, d, 1, zeros)
		flush(t, d)
		wantRead(t, d, 0, text)
		wantDurable(t, d, 0, text)
	}
	for _, n := range []int{513, 514, 1024, 100000} {
		d := New(2)
		put(t, d, 0, "kept")
		wantErr(t, "Write of too much", d.Write(0, make([]byte, n)), api.ErrArg)
		wantPending(t, d, 1)
		wantRead(t, d, 0, "kept")
		wantDead(t, d, false)
	}
}

// P2.2: nil and empty data are one and the same: a sector of zeros, and a write like others.
func TestNoData(t *testing.T) {
	for _, data := range [][]byte{nil, {}} {
		d := New(1)
		put(t, d, 0, "old")
		flush(t, d)
		wantErr(t, "Write", d.Write(0, data), api.OK)
		wantPending(t, d, 1)
		wantRead(t, d, 0, zeros)
		wantDurable(t, d, 0, "old")
		flush(t, d)
		wantDurable(t, d, 0, zeros)
	}
}

// P2.2: every byte value comes back, the zeros at an end, too.
func TestAllBytes(t *testing.T) {
	var text []byte
	for i := range 512 {
		text = append(text, byte(i+1))
	}
	d := New(1)
	put(t, d, 0, string(text))
	wantRead(t, d, 0, string(text))
	flush(t, d)
	wantDurable(t, d, 0, string(text))
}

// P2.2: what waits, and what a flush makes durable.
func TestFlush(t *testing.T) {
	d := New(3)
	flush(t, d)
	wantPending(t, d, 0)
	put(t, d, 0, "a")
	put(t, d, 2, "b")
	put(t, d, 0, "c")
	wantPending(t, d, 3)
	wantRead(t, d, 0, "c")
	wantRead(t, d, 2, "b")
	wantDurable(t, d, 0, zeros)
	wantDurable(t, d, 2, zeros)
	flush(t, d)
	wantPending(t, d, 0)
	for i, text := range []string{"c", zeros, "b"} {
		wantRead(t, d, i, text)
		wantDurable(t, d, i, text)
	}
	put(t, d, 2, "d")
	wantPending(t, d, 1)
	wantRead(t, d, 2, "d")
	wantDurable(t, d, 2, "b")
	d.Crash(nil)
	wantRead(t, d, 0, "c")
	wantRead(t, d, 2, "b")
}

// P2.2: what is flushed doesn't come back over what a crash kept later.
func TestFlushedWritesWaitNoMore(t *testing.T) {
	d := New(1)
	put(t, d, 0, "first")
	flush(t, d)
	put(t, d, 0, "second")
	d.Crash([]bool{true, true})
	wantRead(t, d, 0, "second")
	flush(t, d)
	wantRead(t, d, 0, "second")
	wantDurable(t, d, 0, "second")
}

// P2.2, P2.3: each write and each flush uses one of the fuel; the next one is where the disk dies.
func TestFuelAtAWrite(t *testing.T) {
	for n := range 6 {
		d := New(2)
		put(t, d, 0, "before")
		d.Fuel(n)
		for k := range n {
			put(t, d, 1, string(rune('a'+k)))
			wantDead(t, d, false)
		}
		wantPending(t, d, n+1)
		wantRead(t, d, 0, "before")
		wantErr(t, "Write without fuel", d.Write(1, []byte("z")), api.ErrDead)
		wantDead(t, d, true)
		wantPending(t, d, n+1)
		d.Crash(slices.Repeat([]bool{true}, n+2))
		want := zeros
		if n > 0 {
			want = string(rune('a' + n - 1))
		}
		wantRead(t, d, 0, "before")
		wantRead(t, d, 1, want)
	}
}

// P2.2, P2.3: a flush without fuel isn't done.
func TestFuelAtAFlush(t *testing.T) {
	for n := range 6 {
		d := New(2)
		d.Fuel(n + 1)
		put(t, d, 0, "flushed?")
		for range n {
			flush(t, d)
			wantDead(t, d, false)
		}
		wantErr(t, "Flush without fuel", d.Flush(), api.ErrDead)
		wantDead(t, d, true)
		if n == 0 {
			wantPending(t, d, 1)
			wantDurable(t, d, 0, zeros)
			d.Crash(nil)
			wantRead(t, d, 0, zeros)
		} else {
			wantPending(t, d, 0)
			wantDurable(t, d, 0, "flushed?")
			d.Crash(nil)
			wantRead(t, d, 0, "flushed?")
		}
	}
}

// P2.2: a write that isn't done is none that a crash could keep, nor one that counts.
func TestTheLastWriteIsNotDone(t *testing.T) {
	d := New(2)
	d.Fuel(1)
	put(t, d, 0, "a")
	wantErr(t, "Write", d.Write(1, []byte("b")), api.ErrDead)
	wantErr(t, "Write", d.Write(1, []byte("c")), api.ErrDead)
	wantPending(t, d, 1)
	d.Crash([]bool{true, true, true})
	wantRead(t, d, 0, "a")
	wantRead(t, d, 1, zeros)
}

// P2.1, P2.2: all that isn't a write or a flush that is done uses no fuel.
func TestWhatUsesNoFuel(t *testing.T) {
	d := New(2)
	d.Fuel(2)
	for range 5 {
		wantErr(t, "Write", d.Write(-1, []byte("x")), api.ErrArg)
		wantErr(t, "Write", d.Write(2, []byte("x")), api.ErrArg)
		wantErr(t, "Write", d.Write(0, make([]byte, 513)), api.ErrArg)
		d.Read(0)
		d.Read(-1)
		d.Durable(0)
		d.Durable(9)
		d.Size()
		d.Pending()
		d.Dead()
		d.Clone().Write(0, nil)
	}
	put(t, d, 0, "a")
	flush(t, d)
	for range 5 {
		wantErr(t, "Write of no fuel, to no sector", d.Write(2, []byte("x")), api.ErrArg)
		wantErr(t, "Write of no fuel, of too much", d.Write(0, make([]byte, 513)), api.ErrArg)
		wantDead(t, d, false)
	}
	wantRead(t, d, 0, "a")
	wantErr(t, "Flush", d.Flush(), api.ErrDead)
}

// P2.3: the fuel is what was said last; without a number below 0.
func TestFuel(t *testing.T) {
	d := New(1)
	d.Fuel(0)
	wantDead(t, d, false)
	d.Fuel(5)
	d.Fuel(1)
	put(t, d, 0, "a")
	d.Fuel(1)
	put(t, d, 0, "b")
	wantErr(t, "Write", d.Write(0, nil), api.ErrDead)
	for _, n := range []int{-1, -2, -1000, math.MinInt, math.MaxInt} {
		d := New(1)
		d.Fuel(0)
		d.Fuel(n)
		for range 2000 {
			put(t, d, 0, "a")
			flush(t, d)
		}
		wantDead(t, d, false)
	}
}

// P2.1, P2.2: all that a dead disk refuses; an error that an argument would bring comes behind that.
func TestDeadDisk(t *testing.T) {
	d := New(2)
	put(t, d, 0, "durable")
	flush(t, d)
	put(t, d, 0, "waits")
	kill(t, d)
	for _, i := range []int{-1, 0, 1, 2} {
		data, err := d.Read(i)
		wantNothing(t, "Read", data, err, api.ErrDead)
		wantErr(t, "Write", d.Write(i, []byte("x")), api.ErrDead)
		wantErr(t, "Write of too much", d.Write(i, make([]byte, 513)), api.ErrDead)
	}
	wantErr(t, "Flush", d.Flush(), api.ErrDead)
	wantPending(t, d, 1)
	if d.Size() != 2 {
		t.Errorf("Size = %d", d.Size())
	}
	wantDurable(t, d, 0, "durable")
	wantDurable(t, d, 1, zeros)
	for _, i := range []int{-1, 2} {
		data, err := d.Durable(i)
		wantNothing(t, "Durable", data, err, api.ErrArg)
	}
}

// P2.3: fuel brings no dead disk back; and a crash takes its number away, given while it was dead or not.
func TestFuelOfADeadDisk(t *testing.T) {
	for _, n := range []int{-1, 0, 1, 100} {
		d := New(1)
		put(t, d, 0, "a")
		kill(t, d)
		d.Fuel(n)
		wantDead(t, d, true)
		_, err := d.Read(0)
		wantErr(t, "Read", err, api.ErrDead)
		wantErr(t, "Write", d.Write(0, []byte("b")), api.ErrDead)
		wantErr(t, "Flush", d.Flush(), api.ErrDead)
		wantPending(t, d, 1)
		wantDead(t, d, true)
		d.Crash([]bool{true})
		wantDead(t, d, false)
		wantRead(t, d, 0, "a")
		for range 200 {
			put(t, d, 0, "b")
			flush(t, d)
		}
	}
}

// P2.4: a disk that is not dead may crash, too; its fuel has no number then.
func TestCrashOfALivingDisk(t *testing.T) {
	d := New(1)
	d.Fuel(1)
	put(t, d, 0, "a")
	d.Crash([]bool{true})
	wantPending(t, d, 0)
	wantDead(t, d, false)
	for range 50 {
		put(t, d, 0, "b")
		flush(t, d)
	}
	d.Crash(nil)
	d.Crash([]bool{true, true})
	wantRead(t, d, 0, "b")
	wantDurable(t, d, 0, "b")
}

// P2.4: whatever is kept of five writes, by lists of each length.
func TestCrashKeeps(t *testing.T) {
	writes := []struct {
		at   int
		text string
	}{{0, "a"}, {1, "b"}, {0, "c"}, {2, "d"}, {0, "e"}}
	for length := range 8 {
		for bits := range 1 << length {
			d := New(4)
			put(t, d, 0, "old")
			put(t, d, 3, "stays")
			flush(t, d)
			want := []string{"old", zeros, zeros, "stays"}
			keep := make([]bool, length)
			for k := range keep {
				keep[k] = bits>>k&1 == 1
			}
			for k, w := range writes {
				put(t, d, w.at, w.text)
				if k < length && keep[k] {
					want[w.at] = w.text
				}
			}
			if bits%2 == 1 {
				kill(t, d)
			}
			d.Crash(keep)
			wantPending(t, d, 0)
			wantDead(t, d, false)
			for i, text := range want {
				wantRead(t, d, i, text)
				wantDurable(t, d, i, text)
			}
		}
	}
}

// P2.4: a crash without a list, and with an empty one: nothing is kept.
func TestCrashKeepsNothing(t *testing.T) {
	for _, keep := range [][]bool{nil, {}, {false}, {false, false, false}} {
		d := New(2)
		put(t, d, 0, "a")
		put(t, d, 1, "b")
		d.Crash(keep)
		wantRead(t, d, 0, zeros)
		wantRead(t, d, 1, zeros)
		flush(t, d)
		wantRead(t, d, 0, zeros)
		wantDurable(t, d, 1, zeros)
	}
}

// P2.4: what a crash kept is durable: the next crash leaves it.
func TestCrashBehindACrash(t *testing.T) {
	d := New(2)
	put(t, d, 0, "a")
	put(t, d, 1, "b")
	d.Crash([]bool{false, true})
	put(t, d, 0, "c")
	put(t, d, 1, "d")
	d.Crash([]bool{true})
	wantRead(t, d, 0, "c")
	wantRead(t, d, 1, "b")
	d.Crash(nil)
	wantRead(t, d, 0, "c")
	wantRead(t, d, 1, "b")
}

// P2.4: a clone has the same of all.
func TestCloneIsTheSame(t *testing.T) {
	d := New(3)
	put(t, d, 0, "a")
	flush(t, d)
	put(t, d, 0, "b")
	put(t, d, 1, "c")
	d.Fuel(1)
	c := d.Clone()
	if c.Size() != 3 {
		t.Errorf("Size = %d", c.Size())
	}
	wantPending(t, c, 2)
	wantDead(t, c, false)
	wantRead(t, c, 0, "b")
	wantRead(t, c, 1, "c")
	wantDurable(t, c, 0, "a")
	wantDurable(t, c, 1, zeros)
	put(t, c, 2, "d")
	wantErr(t, "Write of the clone", c.Write(2, nil), api.ErrDead)
	dead := c.Clone()
	wantDead(t, dead, true)
	wantPending(t, dead, 3)
	wantErr(t, "Flush", dead.Flush(), api.ErrDead)
	dead.Crash([]bool{false, true, true})
	for i, text := range []string{"a", "c", "d"} {
		wantRead(t, dead, i, text)
	}
	wantDead(t, c, true)
}

// P2.4: neither a disk nor its clone sees what is done to the other; the names stand for both roles.
func TestCloneGoesItsOwnWay(t *testing.T) {
	for _, swapped := range []bool{false, true} {
		one := New(2)
		put(t, one, 0, "a")
		flush(t, one)
		put(t, one, 0, "b")
		put(t, one, 1, "c")
		one.Fuel(3)
		other := one.Clone()
		if swapped {
			one, other = other, one
		}
		put(t, one, 0, "mine")
		put(t, one, 1, "mine, too")
		wantPending(t, one, 4)
		wantPending(t, other, 2)
		wantRead(t, other, 0, "b")
		put(t, other, 1, "its")
		wantRead(t, one, 1, "mine, too")
		flush(t, one)
		wantDurable(t, one, 0, "mine")
		wantDurable(t, other, 0, "a")
		wantPending(t, other, 3)
		wantErr(t, "Flush", one.Flush(), api.ErrDead)
		wantDead(t, one, true)
		wantDead(t, other, false)
		one.Crash(nil)
		wantPending(t, other, 3)
		wantRead(t, other, 1, "its")
		put(t, other, 1, "its second")
		flush(t, other)
		wantErr(t, "Flush", other.Flush(), api.ErrDead)
		wantDead(t, one, false)
		other.Crash(nil)
		for i, text := range []string{"mine", "mine, too"} {
			wantRead(t, one, i, text)
		}
		for i, text := range []string{"b", "its second"} {
			wantRead(t, other, i, text)
		}
	}
}

// P2.4: a dead disk and its clone: a crash of one brings that one back.
func TestCloneOfADeadDisk(t *testing.T) {
	for _, swapped := range []bool{false, true} {
		one := New(1)
		put(t, one, 0, "a")
		put(t, one, 0, "b")
		kill(t, one)
		other := one.Clone()
		if swapped {
			one, other = other, one
		}
		wantDead(t, one, true)
		wantDead(t, other, true)
		one.Crash([]bool{true, false})
		wantDead(t, one, false)
		wantDead(t, other, true)
		wantRead(t, one, 0, "a")
		wantDurable(t, other, 0, zeros)
		wantPending(t, other, 2)
		put(t, one, 0, "on")
		flush(t, one)
		other.Crash([]bool{false, true})
		wantRead(t, other, 0, "b")
		wantRead(t, one, 0, "on")
	}
}

// P2.4: two clones of one disk append apart to what waits.
func TestTwoClonesWithWritesThatWait(t *testing.T) {
	d := New(4)
	for n := range 9 {
		put(t, d, 0, "w")
		a, b := d.Clone(), d.Clone()
		put(t, a, 1, "a")
		put(t, b, 1, "b")
		put(t, d, 1, "d")
		keep := make([]bool, 2*n+2)
		keep[2*n+1] = true
		for _, c := range []struct {
			disk *Disk
			text string
		}{{a, "a"}, {b, "b"}, {d.Clone(), "d"}} {
			c.disk.Crash(keep)
			wantRead(t, c.disk, 0, zeros)
			wantRead(t, c.disk, 1, c.text)
		}
	}
}

// Types: a nil *Disk, at every call.
func TestNilDisk(t *testing.T) {
	var d *Disk
	d.Fuel(0)
	d.Fuel(-1)
	d.Crash(nil)
	d.Crash([]bool{true})
	if d.Size() != 0 || d.Pending() != 0 || d.Dead() || d.Clone() != nil {
		t.Errorf("Size %d, Pending %d, Dead %v, Clone %v", d.Size(), d.Pending(), d.Dead(), d.Clone())
	}
	for _, i := range []int{math.MinInt, -1, 0, 1, math.MaxInt} {
		data, err := d.Read(i)
		wantNothing(t, "Read", data, err, api.ErrNone)
		data, err = d.Durable(i)
		wantNothing(t, "Durable", data, err, api.ErrNone)
		for _, data := range [][]byte{nil, []byte("x"), make([]byte, 513)} {
			wantErr(t, "Write", d.Write(i, data), api.ErrNone)
		}
	}
	wantErr(t, "Flush", d.Flush(), api.ErrNone)
}

// P1 (rule 5): what is handed in isn't changed, its spare room included, nor kept.
func TestArgumentsAreNeitherChangedNorKept(t *testing.T) {
	buffer := bytes.Repeat([]byte("r"), 600)
	before := bytes.Clone(buffer)
	data := buffer[10:20]
	d := New(2)
	wantErr(t, "Write", d.Write(0, data), api.OK)
	wantErr(t, "Write", d.Write(1, buffer[:512]), api.OK)
	wantErr(t, "Write", d.Write(1, buffer[:513]), api.ErrArg)
	c := d.Clone()
	flush(t, d)
	if !bytes.Equal(buffer, before) {
		t.Errorf("Write changed its argument")
	}
	for i := range buffer {
		buffer[i] = 'X'
	}
	c.Crash([]bool{true, true})
	for _, one := range []*Disk{d, c} {
		for i, n := range []int{10, 512} {
			wantRead(t, one, i, string(before[:n]))
			wantDurable(t, one, i, string(before[:n]))
		}
	}

	keeps := []bool{true, false, true, true}
	keep := keeps[:2]
	put(t, d, 0, "a")
	put(t, d, 1, "b")
	d.Crash(keep)
	if !slices.Equal(keeps, []bool{true, false, true, true}) {
		t.Errorf("Crash changed its argument")
	}
	keep[1] = true
	wantRead(t, d, 0, "a")
	wantRead(t, d, 1, string(before[:512]))
}

// spoil writes over an answer, its spare room included.
func spoil(data []byte) {
	data = data[:cap(data)]
	for i := range data {
		data[i] = 0xEE
	}
}

// P1 (rule 5): an answer is new memory: written over, it changes nothing.
func TestAnswersAreNewMemory(t *testing.T) {
	d := New(3)
	put(t, d, 0, "flushed")
	flush(t, d)
	put(t, d, 1, "waits")
	c := d.Clone()
	for range 2 {
		for i, text := range []string{"flushed", "waits", zeros} {
			read, _ := d.Read(i)
			again, _ := d.Read(i)
			durable, _ := d.Durable(i)
			spoil(read)
			if !bytes.Equal(again, sector(text)) {
				t.Errorf("two answers of Read(%d) share memory", i)
			}
			spoil(durable)
			wantRead(t, d, i, text)
		}
		wantDurable(t, d, 0, "flushed")
		wantDurable(t, d, 1, zeros)
		wantDurable(t, d, 2, zeros)
		for i, text := range []string{"flushed", "waits", zeros} {
			wantRead(t, c, i, text)
		}
		wantRead(t, New(1), 0, zeros)
	}
	flush(t, d)
	wantDurable(t, d, 0, "flushed")
	wantDurable(t, d, 1, "waits")
}

// P1 (rule 5): what was read stays as it was, whatever is done to the disk later.
func TestAnswersStay(t *testing.T) {
	d := New(1)
	put(t, d, 0, "a")
	flush(t, d)
	read, _ := d.Read(0)
	durable, _ := d.Durable(0)
	put(t, d, 0, "b")
	flush(t, d)
	put(t, d, 0, "c")
	d.Crash(nil)
	if !bytes.Equal(read, sector("a")) || !bytes.Equal(durable, sector("a")) {
		t.Errorf("an answer changed with the disk")
	}
}

// P1 (rule 6): two disks share nothing.
func TestDisksAreApart(t *testing.T) {
	a, b := New(2), New(2)
	put(t, a, 0, "a")
	a.Fuel(0)
	wantErr(t, "Flush", a.Flush(), api.ErrDead)
	wantRead(t, b, 0, zeros)
	wantPending(t, b, 0)
	wantDead(t, b, false)
	flush(t, b)
}

// told is the chapter's words, taken as they stand: a list of writes that is gone through for each answer.
type told struct {
	sectors []string
	waits   []toldWrite
	fuel    int
	dead    bool
}

type toldWrite struct {
	at   int
	text string
}

func (m *told) read(i int) (string, api.Errno) {
	if m.dead {
		return "", api.ErrDead
	}
	text := m.sectors[i]
	for _, w := range m.waits {
		if w.at == i {
			text = w.text
		}
	}
	return text, api.OK
}

func (m *told) use() api.Errno {
	if m.fuel == 0 {
		m.dead = true
	}
	if m.dead {
		return api.ErrDead
	}
	m.fuel--
	return api.OK
}

func (m *told) write(i int, text string) api.Errno {
	if m.dead {
		return api.ErrDead
	}
	if i < 0 || i >= len(m.sectors) || len(text) > 512 {
		return api.ErrArg
	}
	if err := m.use(); err != api.OK {
		return err
	}
	m.waits = append(m.waits, toldWrite{i, text})
	return api.OK
}

func (m *told) flush() api.Errno {
	if err := m.use(); err != api.OK {
		return err
	}
	m.crashed(slices.Repeat([]bool{true}, len(m.waits)))
	return api.OK
}

func (m *told) crashed(keep []bool) {
	for k, w := range m.waits {
		if k < len(keep) && keep[k] {
			m.sectors[w.at] = w.text
		}
	}
	m.waits = nil
}

func (m *told) clone() *told {
	return &told{slices.Clone(m.sectors), slices.Clone(m.waits), m.fuel, m.dead}
}

// dice throws the same numbers in each run.
type dice uint64

func (x *dice) below(n int) int {
	*x = *x*6364136223846793005 + 1442695040888963407
	return int(uint64(*x) >> 33 % uint64(n))
}

// held holds a disk against the words.
func held(t *testing.T, d *Disk, m *told) {
	t.Helper()
	wantDead(t, d, m.dead)
	wantPending(t, d, len(m.waits))
	for i := range m.sectors {
		wantDurable(t, d, i, m.sectors[i])
		text, want := m.read(i)
		if got, err := d.Read(i); err != want {
			t.Errorf("Read(%d): error %d, want %d", i, err, want)
		} else if err == api.OK && !bytes.Equal(got, sector(text)) {
			t.Errorf("Read(%d) = %.20q.., want %.20q..", i, got, text)
		}
	}
}

// step does one thing to a disk and to what is told of it.
func step(t *testing.T, d *Disk, m *told, x *dice) {
	t.Helper()
	switch x.below(12) {
	case 0:
		wantErr(t, "Flush", d.Flush(), m.flush())
	case 1:
		m.fuel = x.below(8) - 1
		d.Fuel(m.fuel)
	case 2:
		keep := make([]bool, x.below(12))
		for k := range keep {
			keep[k] = x.below(2) == 1
		}
		d.Crash(keep)
		m.crashed(keep)
		m.fuel, m.dead = -1, false
	default:
		i := x.below(len(m.sectors)+2) - 1
		text := strings.Repeat(string(rune('a'+x.below(26))), []int{0, 1, 7, 511, 512, 513}[x.below(6)])
		wantErr(t, "Write", d.Write(i, []byte(text)), m.write(i, text))
	}
}

// P2.1 to P2.4: many disks, and clones of them, each held against the words behind every step.
func TestAgainstTheWords(t *testing.T) {
	const many = 6
	x := dice(1)
	var disks [many]*Disk
	var words [many]*told
	for k := range many {
		disks[k] = New(k + 1)
		words[k] = &told{sectors: make([]string, k+1), fuel: -1}
	}
	for range 20000 {
		k := x.below(many)
		if x.below(20) == 0 {
			from := x.below(many)
			disks[k], words[k] = disks[from].Clone(), words[from].clone()
		}
		step(t, disks[k], words[k], &x)
		for i := range many {
			held(t, disks[i], words[i])
		}
		if t.Failed() {
			return
		}
	}
}
