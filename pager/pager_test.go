package pager

import (
	"bytes"
	"fmt"
	"math"
	"slices"
	"strings"
	"testing"

	"docket/api"
	"docket/disk"
	"docket/wal"
)

func wantErr(t *testing.T, what string, got, want api.Errno) {
	t.Helper()
	if got != want {
		t.Errorf("%s: error %d, want %d", what, got, want)
	}
}

func wantNumbers(t *testing.T, p *Pager, done, synced int64) {
	t.Helper()
	if p.Done() != done || p.Synced() != synced {
		t.Errorf("Done %d, Synced %d, want %d, %d", p.Done(), p.Synced(), done, synced)
	}
}

func wantDirty(t *testing.T, x *Tx, want int) {
	t.Helper()
	if got := x.Dirty(); got != want {
		t.Errorf("Dirty = %d, want %d", got, want)
	}
}

// wantRead holds a block against a text and the zeros behind it.
func wantRead(t *testing.T, x *Tx, b int, text string) {
	t.Helper()
	got, err := x.Read(b)
	if err != api.OK || string(got) != text+strings.Repeat("\x00", 512-len(text)) {
		t.Errorf("Read(%d) = %.20q.. (%d bytes), %d, want %.20q..", b, got, len(got), err, text)
	}
}

// wantBlocks holds all blocks, as a transaction sees them, against texts; those behind the texts are zero.
func wantBlocks(t *testing.T, x *Tx, blocks int, texts ...string) {
	t.Helper()
	for b := range blocks {
		text := ""
		if b < len(texts) {
			text = texts[b]
		}
		wantRead(t, x, b, text)
	}
}

// refuseRead holds that Read answers an error, and nothing beside it.
func refuseRead(t *testing.T, x *Tx, b int, want api.Errno) {
	t.Helper()
	data, err := x.Read(b)
	wantErr(t, "Read", err, want)
	if data != nil {
		t.Errorf("Read(%d): %d bytes beside an error", b, len(data))
	}
}

func refuseCommit(t *testing.T, x *Tx, want api.Errno) {
	t.Helper()
	number, err := x.Commit()
	wantErr(t, "Commit", err, want)
	if number != 0 {
		t.Errorf("Commit: the number %d beside an error", number)
	}
}

func refuseBegin(t *testing.T, p *Pager, want api.Errno) {
	t.Helper()
	x, err := p.Begin()
	wantErr(t, "Begin", err, want)
	if x != nil {
		t.Errorf("a transaction beside an error")
	}
}

func mustMake(t *testing.T, d *disk.Disk, log int) *Pager {
	t.Helper()
	p, err := Make(d, log)
	if err != api.OK || p == nil {
		t.Fatalf("Make(%d): error %d", log, err)
	}
	wantNumbers(t, p, 0, 0)
	if p.Blocks() != d.Size()-log {
		t.Fatalf("Blocks = %d, want %d", p.Blocks(), d.Size()-log)
	}
	return p
}

// mustOpen opens a pager whose last durable commit is known.
func mustOpen(t *testing.T, d *disk.Disk, log int, done int64) *Pager {
	t.Helper()
	p, err := Open(d, log)
	if err != api.OK || p == nil {
		t.Fatalf("Open(%d): error %d", log, err)
	}
	wantNumbers(t, p, done, done)
	if p.Blocks() != d.Size()-log {
		t.Fatalf("Blocks = %d, want %d", p.Blocks(), d.Size()-log)
	}
	return p
}

func mustBegin(t *testing.T, p *Pager) *Tx {
	t.Helper()
	x, err := p.Begin()
	if err != api.OK || x == nil {
		t.Fatalf("Begin: error %d", err)
	}
	wantDirty(t, x, 0)
	return x
}

func mustWrite(t *testing.T, x *Tx, b int, text string) {
	t.Helper()
	wantErr(t, "Write", x.Write(b, []byte(text)), api.OK)
}

func mustCommit(t *testing.T, x *Tx, want int64) {
	t.Helper()
	number, err := x.Commit()
	if err != api.OK || number != want {
		t.Fatalf("Commit: %d, error %d, want %d", number, err, want)
	}
	wantClosed(t, x)
}

func mustSync(t *testing.T, p *Pager) {
	t.Helper()
	wantErr(t, "Sync", p.Sync(), api.OK)
	if p.Synced() != p.Done() {
		t.Errorf("behind Sync: Done %d, Synced %d", p.Done(), p.Synced())
	}
}

// wantClosed holds what a transaction answers that is nil, or was committed or aborted.
func wantClosed(t *testing.T, x *Tx) {
	t.Helper()
	for _, b := range []int{-1, 0} {
		refuseRead(t, x, b, api.ErrNone)
		wantErr(t, "Write", x.Write(b, make([]byte, 512-b)), api.ErrNone)
	}
	refuseCommit(t, x, api.ErrNone)
	wantDirty(t, x, 0)
	x.Abort()
}

// holds begins a transaction that looks at all blocks, and aborts it.
func holds(t *testing.T, p *Pager, texts ...string) {
	t.Helper()
	x := mustBegin(t, p)
	wantBlocks(t, x, p.Blocks(), texts...)
	x.Abort()
}

// puts commits texts on the first blocks.
func puts(t *testing.T, p *Pager, want int64, texts ...string) {
	t.Helper()
	x := mustBegin(t, p)
	for b, text := range texts {
		mustWrite(t, x, b, text)
	}
	mustCommit(t, x, want)
}

// text is n bytes that differ from those of another seed.
func text(seed, n int) string {
	b := make([]byte, n)
	x := uint32(seed)*2654435761 + 1
	for i := range b {
		x = x*1664525 + 1013904223
		b[i] = byte(x >> 24)
	}
	return string(b)
}

// kill lets a disk die by somebody else's write.
func kill(t *testing.T, d *disk.Disk) {
	t.Helper()
	d.Fuel(0)
	wantErr(t, "Write without fuel", d.Write(0, []byte("lost")), api.ErrDead)
}

// junk is a disk full of what is no pager.
func junk(sectors int) *disk.Disk {
	d := disk.New(sectors)
	for i := range sectors {
		d.Write(i, []byte(text(i, 512)))
	}
	return d
}

// The chapter's examples.
func TestExamples(t *testing.T) {
	d := disk.New(20)
	p := mustMake(t, d, 6)
	if p.Blocks() != 14 {
		t.Errorf("Blocks = %d", p.Blocks())
	}
	x := mustBegin(t, p)
	mustWrite(t, x, 3, "a")
	wantRead(t, x, 3, "a")
	refuseBegin(t, p, api.ErrBusy)
	mustCommit(t, x, 1)

	c := d.Clone()
	c.Crash(nil)
	lost, err := Open(c, 6)
	if err != api.OK || lost.Done() != lost.Synced() || lost.Done() > 1 {
		t.Errorf("behind a crash: Done %d, Synced %d, error %d", lost.Done(), lost.Synced(), err)
	}
	holds(t, lost, append(make([]string, 3), strings.Repeat("a", int(lost.Done())))...)

	x = mustBegin(t, p)
	for b := range 5 {
		mustWrite(t, x, b, text(b, 512))
	}
	refuseCommit(t, x, api.ErrLog)
}

// P4.1: disks and logs that fit, at their edges: how many blocks there are, all zero, whatever lay there.
func TestMake(t *testing.T) {
	for _, c := range []struct{ sectors, log int }{{3, 2}, {4, 2}, {4, 3}, {20, 6}, {300, 100}, {4096, 2}, {4096, 4095}} {
		for _, d := range []*disk.Disk{disk.New(c.sectors), junk(c.sectors)} {
			p := mustMake(t, d, c.log)
			if d.Pending() != 0 {
				t.Errorf("Make(%d) leaves writes that wait", c.log)
			}
			holds(t, p)
			d.Crash(nil)
			holds(t, mustOpen(t, d, c.log, 0))
		}
	}
}

// P4.1: a pager that was made over another one has nothing of it.
func TestMakeAgain(t *testing.T) {
	for log := 2; log < 20; log++ {
		d := disk.New(20)
		p := mustMake(t, d, 6)
		for i := range 9 {
			puts(t, p, int64(i+1), text(i, 512), "b", text(i+1, 100))
		}
		mustSync(t, p)
		p = mustMake(t, d, log)
		holds(t, p)
		wantNumbers(t, p, 0, 0)
		d.Crash(nil)
		p = mustOpen(t, d, log, 0)
		holds(t, p)
		if log != 6 {
			wantNoOpen(t, d, 6, api.ErrBad)
		}
	}
}

func wantNoMake(t *testing.T, d *disk.Disk, log int, want api.Errno) {
	t.Helper()
	p, err := Make(d, log)
	wantErr(t, fmt.Sprintf("Make(%d)", log), err, want)
	if p != nil {
		t.Errorf("Make(%d): a pager beside an error", log)
	}
}

func wantNoOpen(t *testing.T, d *disk.Disk, log int, want api.Errno) {
	t.Helper()
	p, err := Open(d, log)
	wantErr(t, fmt.Sprintf("Open(%d)", log), err, want)
	if p != nil {
		t.Errorf("Open(%d): a pager beside an error", log)
	}
}

// misfits are logs for which a disk of 8 sectors isn't right.
var misfits = []int{math.MinInt, -1, 0, 1, 8, 9, 4096, math.MaxInt - 1, math.MaxInt}

// P4.1: the errors, in their order, and that what is refused changes nothing.
func TestMakeAndOpenRefuse(t *testing.T) {
	for _, log := range append(misfits, 2, 6) {
		wantNoMake(t, nil, log, api.ErrNone)
		wantNoOpen(t, nil, log, api.ErrNone)
	}
	d := disk.New(8)
	p := mustMake(t, d, 4)
	puts(t, p, 1, "a")
	mustSync(t, p)
	for _, log := range misfits {
		wantNoMake(t, d, log, api.ErrArg)
		wantNoOpen(t, d, log, api.ErrArg)
	}
	if d.Pending() != 0 {
		t.Errorf("what was refused has written")
	}
	holds(t, mustOpen(t, d, 4, 1), "a")
	for _, sectors := range []int{1, 2} {
		wantNoMake(t, disk.New(sectors), 2, api.ErrArg)
		wantNoOpen(t, disk.New(sectors), 2, api.ErrArg)
	}
	kill(t, d)
	for _, log := range misfits {
		wantNoMake(t, d, log, api.ErrArg)
		wantNoOpen(t, d, log, api.ErrArg)
	}
	for _, log := range []int{2, 4, 7} {
		wantNoMake(t, d, log, api.ErrDead)
		wantNoOpen(t, d, log, api.ErrDead)
	}
	d.Crash(nil)
	holds(t, mustOpen(t, d, 4, 1), "a")
}

// P4.1: no pager lies there, or one that was made with another log.
func TestOpenWhereNoPagerLies(t *testing.T) {
	for log := 2; log < 20; log++ {
		wantNoOpen(t, disk.New(20), log, api.ErrBad)
		wantNoOpen(t, junk(20), log, api.ErrBad)
		d := disk.New(20)
		mustMake(t, d, 7)
		if log != 7 {
			wantNoOpen(t, d, log, api.ErrBad)
		}
		mustOpen(t, d, 7, 0)
	}
}

// P4.1: a log lies there, but what it holds no transaction has written.
func TestOpenOfAnotherLog(t *testing.T) {
	record := func(b int, text string) string {
		return string([]byte{byte(b), byte(b >> 8), byte(b >> 16), byte(b >> 24)}) + text
	}
	full := text(1, 512)
	for _, c := range []struct {
		want  api.Errno
		batch []string
	}{
		{api.OK, []string{record(0, full)}},
		{api.OK, []string{record(0, full), record(1, full), record(11, full)}},
		{api.ErrBad, []string{""}},
		{api.ErrBad, []string{"text"}},
		{api.ErrBad, []string{record(0, full[1:])}},
		{api.ErrBad, []string{record(0, full+"x")}},
		{api.ErrBad, []string{record(12, full)}},
		{api.ErrBad, []string{record(256, full)}},
		{api.ErrBad, []string{record(1<<16, full)}},
		{api.ErrBad, []string{record(1<<24, full)}},
		{api.ErrBad, []string{record(-1, full)}},
		{api.ErrBad, []string{record(math.MinInt32, full)}},
		{api.ErrBad, []string{record(1, full), record(1, full)}},
		{api.ErrBad, []string{record(2, full), record(1, full)}},
		{api.ErrBad, []string{record(0, full), record(1, full), "x"}},
	} {
		d := disk.New(20)
		l, _ := wal.Make(d, 0, 8)
		l.Append(record(3, full))
		if _, err := l.Append(c.batch...); err != api.OK {
			t.Fatalf("Append: error %d", err)
		}
		wantErr(t, "Sync", l.Sync(), api.OK)
		if c.want == api.OK {
			mustOpen(t, d, 8, 2)
		} else {
			wantNoOpen(t, d, 8, c.want)
		}
	}
}

// P4.1: damage to a log never panics, and is never taken for something else.
func TestDamage(t *testing.T) {
	d := disk.New(9)
	p := mustMake(t, d, 5)
	puts(t, p, 1, text(1, 512), text(2, 512))
	mustSync(t, p)
	for i := range 5 {
		sector, _ := d.Read(i)
		for at := range 512 {
			hurt := bytes.Clone(sector)
			hurt[at] ^= 1 << (at % 8)
			c := d.Clone()
			wantErr(t, "Write", c.Write(i, hurt), api.OK)
			one, err := Open(c, 5)
			if err == api.OK {
				holds(t, one, text(1, 512), text(2, 512))
			} else {
				wantErr(t, "Open", err, api.ErrBad)
			}
		}
	}
}

// P4.1: Open tells what is durable, again and again, with and without a crash, from the log and from home.
func TestOpenAgainAndAgain(t *testing.T) {
	d := disk.New(14)
	p := mustMake(t, d, 6)
	texts := make([]string, 8)
	for number := int64(1); number < 60; number++ {
		x := mustBegin(t, p)
		for range number%3 + 1 {
			b := int(number*5) % 8
			texts[b] = text(int(number), int(number*37)%513)
			mustWrite(t, x, b, texts[b])
		}
		mustCommit(t, x, number)
		mustSync(t, p)
		for i := range 3 {
			p = mustOpen(t, d, 6, number)
			holds(t, p, texts...)
			if i == 1 {
				d.Crash([]bool{true, false, true})
			}
		}
	}
}

// P4.2: there is one transaction at a time.
func TestBegin(t *testing.T) {
	p := mustMake(t, disk.New(20), 6)
	for number := range int64(4) {
		x := mustBegin(t, p)
		for range 3 {
			refuseBegin(t, p, api.ErrBusy)
		}
		mustWrite(t, x, 0, "a")
		refuseBegin(t, p, api.ErrBusy)
		mustCommit(t, x, number+1)
		x = mustBegin(t, p)
		mustWrite(t, x, 0, "b")
		x.Abort()
		x = mustBegin(t, p)
		mustCommit(t, x, number+1)
		x = mustBegin(t, p)
		for b := range 5 {
			mustWrite(t, x, b, "too much")
		}
		refuseCommit(t, x, api.ErrLog)
		wantClosed(t, x)
		holds(t, p, "a")
	}
}

// P4.2: two pagers, on two disks, have a transaction each.
func TestTwoPagers(t *testing.T) {
	p, q := mustMake(t, disk.New(20), 6), mustMake(t, disk.New(10), 4)
	x, y := mustBegin(t, p), mustBegin(t, q)
	mustWrite(t, x, 1, "x")
	mustWrite(t, y, 1, "y")
	mustWrite(t, y, 2, "y")
	wantDirty(t, x, 1)
	wantRead(t, x, 1, "x")
	wantRead(t, y, 1, "y")
	mustCommit(t, y, 1)
	wantRead(t, x, 2, "")
	x.Abort()
	holds(t, p)
	holds(t, q, "", "y", "y")
}

// P4.2: there is no block b.
func TestNoBlock(t *testing.T) {
	p := mustMake(t, disk.New(20), 6)
	x := mustBegin(t, p)
	for _, b := range []int{math.MinInt, -6, -5, -1, 14, 15, 20, 4096, math.MaxInt - 6, math.MaxInt} {
		refuseRead(t, x, b, api.ErrArg)
		wantErr(t, fmt.Sprintf("Write(%d)", b), x.Write(b, []byte("x")), api.ErrArg)
	}
	wantDirty(t, x, 0)
	mustWrite(t, x, 0, "first")
	mustWrite(t, x, 13, "last")
	wantDirty(t, x, 2)
	mustCommit(t, x, 1)
	holds(t, p, append([]string{"first"}, append(make([]string, 12), "last")...)...)
}

// P4.2: data of each sort of length; what is shorter has zeros behind it, whatever lay there ahead.
func TestLengths(t *testing.T) {
	d := disk.New(20)
	p := mustMake(t, d, 6)
	number := int64(0)
	for _, n := range []int{0, 1, 255, 256, 511, 512} {
		number++
		puts(t, p, number, strings.Repeat("\xff", 512))
		x := mustBegin(t, p)
		mustWrite(t, x, 0, text(n, n))
		wantRead(t, x, 0, text(n, n))
		mustWrite(t, x, 0, strings.Repeat("\xfe", 512))
		mustWrite(t, x, 0, text(n, n))
		wantRead(t, x, 0, text(n, n))
		number++
		mustCommit(t, x, number)
		holds(t, p, text(n, n))
		mustSync(t, p)
		d.Crash(nil)
		p = mustOpen(t, d, 6, number)
		holds(t, p, text(n, n))
	}
	x := mustBegin(t, p)
	mustWrite(t, x, 0, "kept")
	for _, n := range []int{513, 514, 1024, 1 << 20} {
		wantErr(t, "Write of too much", x.Write(0, make([]byte, n)), api.ErrArg)
		wantErr(t, "Write of too much", x.Write(1, make([]byte, n)), api.ErrArg)
	}
	wantDirty(t, x, 1)
	wantBlocks(t, x, 14, "kept")
	wantErr(t, "Write of nil", x.Write(0, nil), api.OK)
	wantBlocks(t, x, 14)
	wantDirty(t, x, 1)
}

// P4.2: every byte value comes back, from the transaction, from the log, and from home.
func TestAllBytes(t *testing.T) {
	var all []byte
	for i := range 512 {
		all = append(all, byte(i+1))
	}
	d := disk.New(20)
	p := mustMake(t, d, 6)
	x := mustBegin(t, p)
	mustWrite(t, x, 0, string(all))
	wantRead(t, x, 0, string(all))
	mustCommit(t, x, 1)
	for number := int64(2); number < 9; number++ {
		holds(t, p, string(all))
		mustSync(t, p)
		d.Crash(nil)
		p = mustOpen(t, d, 6, number-1)
		holds(t, p, string(all))
		x = mustBegin(t, p)
		mustWrite(t, x, 1, "")
		mustCommit(t, x, number)
	}
}

// P4.2: a transaction sees what it has written over what was committed; others see that behind its Commit alone.
func TestOwnView(t *testing.T) {
	d := disk.New(20)
	p := mustMake(t, d, 6)
	puts(t, p, 1, "a", "b", "c")
	x := mustBegin(t, p)
	mustWrite(t, x, 1, "mine")
	mustWrite(t, x, 3, "mine, too")
	wantBlocks(t, x, 14, "a", "mine", "c", "mine, too")
	mustWrite(t, x, 1, "mine again")
	wantBlocks(t, x, 14, "a", "mine again", "c", "mine, too")
	wantDirty(t, x, 2)
	mustSync(t, p)
	c := d.Clone()
	c.Crash(slices.Repeat([]bool{true}, 50))
	holds(t, mustOpen(t, c, 6, 1), "a", "b", "c")
	wantBlocks(t, x, 14, "a", "mine again", "c", "mine, too")
	mustCommit(t, x, 2)
	holds(t, p, "a", "mine again", "c", "mine, too")
}

// P4.2: how many blocks are dirty: each once, though it was written with what it held.
func TestDirty(t *testing.T) {
	p := mustMake(t, disk.New(20), 6)
	puts(t, p, 1, "same")
	x := mustBegin(t, p)
	for i, b := range []int{5, 0, 13, 2} {
		for range 3 {
			mustWrite(t, x, b, "same")
			wantDirty(t, x, i+1)
		}
		x.Read(b + 1)
		x.Write(b, make([]byte, 513))
		x.Write(-b-1, nil)
		wantDirty(t, x, i+1)
	}
	x.Abort()
	wantDirty(t, x, 0)
	x = mustBegin(t, p)
	mustWrite(t, x, 0, "same")
	wantDirty(t, x, 1)
	mustCommit(t, x, 2) // a dirty block makes a commit, whatever it held
}

// P4.2: nothing is left of what was aborted, on the disk neither; and Abort of what is closed ends no other transaction.
func TestAbort(t *testing.T) {
	d := disk.New(20)
	p := mustMake(t, d, 6)
	puts(t, p, 1, "a", "b")
	pending := d.Pending()
	old := mustBegin(t, p)
	for b := range 14 {
		mustWrite(t, old, b, text(b, 512))
	}
	old.Abort()
	wantClosed(t, old)
	wantNumbers(t, p, 1, 0)
	if d.Pending() != pending {
		t.Errorf("what was aborted has written")
	}
	holds(t, p, "a", "b")
	x := mustBegin(t, p)
	mustWrite(t, x, 1, "c")
	wantClosed(t, old)
	refuseBegin(t, p, api.ErrBusy)
	wantDirty(t, x, 1)
	wantRead(t, x, 1, "c")
	mustCommit(t, x, 2)
	mustSync(t, p)
	d.Crash(nil)
	holds(t, mustOpen(t, d, 6, 2), "a", "c")
}

// Types: a nil *Pager, a nil *Tx.
func TestNil(t *testing.T) {
	var p *Pager
	refuseBegin(t, p, api.ErrNone)
	wantErr(t, "Sync", p.Sync(), api.ErrNone)
	wantNumbers(t, p, 0, 0)
	if p.Blocks() != 0 {
		t.Errorf("Blocks = %d", p.Blocks())
	}
	wantClosed(t, nil)
}

// P4.3: with no dirty block, whatever was read or refused, the number is that of the last commit, and nothing is written.
func TestCommitOfNothing(t *testing.T) {
	d := disk.New(20)
	p := mustMake(t, d, 6)
	for number := range int64(3) {
		x := mustBegin(t, p)
		x.Read(1)
		x.Write(14, nil)
		x.Write(0, make([]byte, 513))
		d.Fuel(0)
		mustCommit(t, x, number)
		d.Fuel(-1)
		wantNumbers(t, p, number, 0)
		puts(t, p, number+1, "a")
	}
}

// P4.3: what is exactly as much as the ring has is taken, from each place of the ring; one block more is too much.
func TestTooMuch(t *testing.T) {
	for log := 2; log < 40; log++ {
		most := ((log-1)*512 - 16) / 520
		d := disk.New(log + most + 2)
		p := mustMake(t, d, log)
		number := int64(0)
		var texts []string
		for round := range 4 {
			x := mustBegin(t, p)
			for b := range most + 1 {
				mustWrite(t, x, b, "lost")
			}
			refuseCommit(t, x, api.ErrLog)
			wantClosed(t, x)
			wantNumbers(t, p, number, p.Synced())
			holds(t, p, texts...)
			if most == 0 {
				continue
			}
			texts = nil
			for b := range most {
				texts = append(texts, text(round+b, 512-b%2))
			}
			number++
			puts(t, p, number, texts...)
			holds(t, p, texts...)
			mustSync(t, p)
			number++
			texts[0] = "one"
			puts(t, p, number, texts[0])
			holds(t, p, texts...)
		}
		mustSync(t, p)
		d.Crash(nil)
		holds(t, mustOpen(t, d, log, number), texts...)
	}
}

// P4.3: zeros take the same room as all else.
func TestTooManyZeros(t *testing.T) {
	p := mustMake(t, disk.New(20), 6)
	x := mustBegin(t, p)
	for b := range 5 {
		mustWrite(t, x, b, "")
	}
	refuseCommit(t, x, api.ErrLog)
	puts(t, p, 1, "", "", "", "")
}

// P4.3: a log's batch has at most MaxBatch (1024) records, however big the ring is.
func TestMostBlocks(t *testing.T) {
	d := disk.New(4096)
	p := mustMake(t, d, 2500)
	x := mustBegin(t, p)
	for b := range 1025 {
		mustWrite(t, x, b, "lost")
	}
	wantDirty(t, x, 1025)
	refuseCommit(t, x, api.ErrLog)
	wantClosed(t, x)
	holds(t, p)
	var texts []string
	for b := range 1024 {
		texts = append(texts, text(b, 512))
	}
	for number := range int64(3) {
		slices.Reverse(texts)
		puts(t, p, number+1, texts...)
	}
	mustSync(t, p)
	d.Crash(nil)
	holds(t, mustOpen(t, d, 2500, 3), texts...)
}

// P4.3: in its order the errors are ErrNone, ErrDead, ErrLog.
func TestOrderOfErrors(t *testing.T) {
	d := disk.New(20)
	p := mustMake(t, d, 6)
	x := mustBegin(t, p)
	for b := range 14 {
		mustWrite(t, x, b, "too much")
	}
	c := mustMake(t, disk.New(20), 6)
	y := mustBegin(t, c)
	y.Abort()
	kill(t, d)
	refuseBegin(t, p, api.ErrDead) // though one is open
	refuseRead(t, x, 14, api.ErrDead)
	wantErr(t, "Write", x.Write(14, make([]byte, 513)), api.ErrDead)
	refuseCommit(t, x, api.ErrDead)
	wantDirty(t, x, 14)
	x.Abort()
	wantClosed(t, x)
	refuseBegin(t, p, api.ErrDead)
}

// Words: a commit is a batch of the log: for each dirty block, by rising number, its number and its bytes.
func TestBatches(t *testing.T) {
	d := disk.New(1000)
	p := mustMake(t, d, 20)
	puts(t, p, 1, "a", "b")
	x := mustBegin(t, p)
	for _, b := range []int{513, 4, 979, 256, 0, 300} {
		mustWrite(t, x, b, text(b, 300))
	}
	mustWrite(t, x, 4, "")
	mustCommit(t, x, 2)
	mustSync(t, p)
	l, batches, err := wal.Open(d.Clone(), 0, 20)
	if err != api.OK || l.Last() != 2 {
		t.Fatalf("the log: Last %d, error %d", l.Last(), err)
	}
	zeros := strings.Repeat("\x00", 512)
	want := [][]string{
		{"\x00\x00\x00\x00a" + zeros[1:], "\x01\x00\x00\x00b" + zeros[1:]},
		{
			"\x00\x00\x00\x00" + text(0, 300) + zeros[300:], "\x04\x00\x00\x00" + zeros, "\x00\x01\x00\x00" + text(256, 300) + zeros[300:],
			"\x2c\x01\x00\x00" + text(300, 300) + zeros[300:], "\x01\x02\x00\x00" + text(513, 300) + zeros[300:],
			"\xd3\x03\x00\x00" + text(979, 300) + zeros[300:],
		},
	}
	if !slices.EqualFunc(batches, want, slices.Equal) {
		t.Errorf("the log's batches aren't the commits")
	}
}

// P4.3: what is committed is there for the next one at once; numbers go on, whatever room must be made.
func TestManyCommits(t *testing.T) {
	for log := 4; log < 12; log++ {
		d := disk.New(log + 9)
		p := mustMake(t, d, log)
		texts := make([]string, 9)
		for number := int64(1); number <= 100; number++ {
			x := mustBegin(t, p)
			b := int(number*number) % 9
			texts[b] = text(int(number), 500)
			mustWrite(t, x, b, texts[b])
			mustCommit(t, x, number)
			if p.Done() != number || p.Synced() > number {
				t.Fatalf("Done %d, Synced %d, want Done %d", p.Done(), p.Synced(), number)
			}
			holds(t, p, texts...)
		}
		mustSync(t, p)
		d.Crash(nil)
		holds(t, mustOpen(t, d, log, 100), texts...)
	}
}

// P4.3, P4.4: several commits become durable by one Sync, in two flushes; without one, as long as there is room, by none.
func TestGroupSync(t *testing.T) {
	d := disk.New(40)
	p := mustMake(t, d, 30)
	for number := range int64(5) {
		puts(t, p, number+1, text(int(number), 500), "b")
		wantNumbers(t, p, number+1, 0)
	}
	c := d.Clone()
	c.Crash(slices.Repeat([]bool{true}, c.Pending()))
	lost, err := Open(c, 30)
	if err != api.OK || lost.Done() > 5 {
		t.Errorf("behind a crash: Done %d, error %d", lost.Done(), err)
	}
	d.Fuel(3) // a flush, the log's own sector, and a flush
	mustSync(t, p)
	wantNumbers(t, p, 5, 5)
	d.Crash(nil)
	holds(t, mustOpen(t, d, 30, 5), text(4, 500), "b")
}

// P4.4: Sync again, with nothing to sync, and with a transaction open, of which nothing becomes durable.
func TestSync(t *testing.T) {
	d := disk.New(20)
	p := mustMake(t, d, 6)
	mustSync(t, p)
	wantNumbers(t, p, 0, 0)
	puts(t, p, 1, "a")
	x := mustBegin(t, p)
	mustWrite(t, x, 0, "open")
	for range 3 {
		mustSync(t, p)
		wantNumbers(t, p, 1, 1)
		wantDirty(t, x, 1)
		wantRead(t, x, 0, "open")
		refuseBegin(t, p, api.ErrBusy)
		c := d.Clone()
		c.Crash(nil)
		holds(t, mustOpen(t, c, 6, 1), "a")
	}
	mustCommit(t, x, 2)
	wantNumbers(t, p, 2, 1)
	mustSync(t, p)
	d.Crash(nil)
	holds(t, mustOpen(t, d, 6, 2), "open")
}

// P1 (rule 5): what is handed in is neither changed, its spare room included, nor kept.
func TestArgumentsAreNeitherChangedNorKept(t *testing.T) {
	p := mustMake(t, disk.New(20), 6)
	x := mustBegin(t, p)
	room := []byte(strings.Repeat("m", 600))
	before := bytes.Clone(room)
	wantErr(t, "Write", x.Write(0, room[:100]), api.OK)
	wantErr(t, "Write", x.Write(1, room[:512]), api.OK)
	wantErr(t, "Write", x.Write(2, room), api.ErrArg)
	if !bytes.Equal(room, before) {
		t.Errorf("Write changed its argument")
	}
	clear(room)
	wantBlocks(t, x, 14, string(before[:100]), string(before[:512]))
	mustCommit(t, x, 1)
	holds(t, p, string(before[:100]), string(before[:512]))
}

// P1 (rule 5): an answer is new memory, whether the block is dirty, in the log, or at home.
func TestAnswersAreNewMemory(t *testing.T) {
	d := disk.New(20)
	p := mustMake(t, d, 6)
	puts(t, p, 1, "home", "log", "c")
	mustSync(t, p)
	puts(t, p, 2, "home", "log") // room is made: the first is home
	x := mustBegin(t, p)
	mustWrite(t, x, 0, "dirty")
	for b, want := range []string{"dirty", "log", "c"} {
		one, _ := x.Read(b)
		two, _ := x.Read(b)
		for _, answer := range [][]byte{one, two} {
			whole := answer[:cap(answer)]
			for i := range whole {
				whole[i] = 0xff
			}
			wantRead(t, x, b, want)
		}
		if one[0] = 1; two[0] != 0xff {
			t.Errorf("two answers share memory")
		}
	}
	mustCommit(t, x, 3)
	mustSync(t, p)
	holds(t, p, "dirty", "log", "c")
	d.Crash(nil)
	holds(t, mustOpen(t, d, 6, 3), "dirty", "log", "c")
}

// P1 (rule 6): what was committed ahead is not kept by a transaction that is over, nor handed to the next.
func TestNothingIsHandedOn(t *testing.T) {
	p := mustMake(t, disk.New(20), 6)
	for number := range int64(10) {
		x := mustBegin(t, p)
		mustWrite(t, x, int(number), "lost")
		x.Abort()
		x = mustBegin(t, p)
		wantBlocks(t, x, 14)
		wantDirty(t, x, 0)
		mustWrite(t, x, 0, "")
		mustCommit(t, x, number+1)
	}
}

// P4.3: room is made where it is wanted, and not ahead; what is home then is kept no more.
func TestRoomIsMadeWhereItIsWanted(t *testing.T) {
	p := mustMake(t, disk.New(20), 6)
	puts(t, p, 1, "a")
	puts(t, p, 2, "b", "c")
	wantNumbers(t, p, 2, 0) // the ring is just full
	x := mustBegin(t, p)
	mustWrite(t, x, 2, "d")
	mustCommit(t, x, 3)
	wantNumbers(t, p, 3, 2)
	if len(p.away) != 1 {
		t.Errorf("%d blocks are kept, want the one that isn't home", len(p.away))
	}
	holds(t, p, "b", "c", "d")
}

// P1 (LANGUAGE.md, rule 5): what a crash finds on the sectors hangs on no order of a map.
func TestWritesComeInOneOrder(t *testing.T) {
	left := func(fuel int) []string {
		d := disk.New(60)
		p := mustMake(t, d, 21)
		d.Fuel(fuel)
		for range 2 {
			x := mustBegin(t, p)
			for b := range 19 {
				x.Write(b, []byte(text(b, 512)))
			}
			x.Commit()
			x.Abort()
			if d.Dead() {
				break
			}
		}
		keep := make([]bool, d.Pending())
		for k := range keep {
			keep[k] = k%3 > 0
		}
		d.Crash(keep)
		var sectors []string
		for i := range d.Size() {
			sector, _ := d.Read(i)
			sectors = append(sectors, string(sector))
		}
		return sectors
	}
	for fuel := range 70 {
		if !slices.Equal(left(fuel), left(fuel)) {
			t.Fatalf("with fuel %d the sectors differ from run to run", fuel)
		}
	}
}
