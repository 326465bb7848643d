package wal

import (
	"bytes"
	"fmt"
	"math"
	"slices"
	"strings"
	"testing"

	"docket/api"
	"docket/disk"
)

func wantErr(t *testing.T, what string, got, want api.Errno) {
	t.Helper()
	if got != want {
		t.Errorf("%s: error %d, want %d", what, got, want)
	}
}

// wantNumbers holds what the log's four other calls tell.
func wantNumbers(t *testing.T, l *Log, first, last, synced int64, room int) {
	t.Helper()
	if l.First() != first || l.Last() != last || l.Synced() != synced || l.Room() != room {
		t.Errorf("First %d, Last %d, Synced %d, Room %d, want %d, %d, %d, %d",
			l.First(), l.Last(), l.Synced(), l.Room(), first, last, synced, room)
	}
}

func wantBatches(t *testing.T, got [][]string, want ...[]string) {
	t.Helper()
	if !slices.EqualFunc(got, want, slices.Equal) {
		t.Errorf("batches %.200q, want %.200q", got, want)
	}
}

func mustMake(t *testing.T, d *disk.Disk, from, n int) *Log {
	t.Helper()
	l, err := Make(d, from, n)
	if err != api.OK || l == nil {
		t.Fatalf("Make(%d, %d): error %d", from, n, err)
	}
	wantNumbers(t, l, 1, 0, 0, n-1)
	return l
}

func mustOpen(t *testing.T, d *disk.Disk, from, n int) (*Log, [][]string) {
	t.Helper()
	l, batches, err := Open(d, from, n)
	if err != api.OK || l == nil {
		t.Fatalf("Open(%d, %d): error %d", from, n, err)
	}
	return l, batches
}

func mustAppend(t *testing.T, l *Log, want int64, batch ...string) {
	t.Helper()
	number, err := l.Append(batch...)
	if err != api.OK || number != want {
		t.Fatalf("Append: %d, error %d, want %d", number, err, want)
	}
}

// refuse holds that a batch is refused and nothing is told beside the error.
func refuse(t *testing.T, l *Log, want api.Errno, batch ...string) {
	t.Helper()
	first, last, synced, room := l.First(), l.Last(), l.Synced(), l.Room()
	number, err := l.Append(batch...)
	wantErr(t, "Append", err, want)
	if number != 0 {
		t.Errorf("the number %d beside an error", number)
	}
	wantNumbers(t, l, first, last, synced, room)
}

func mustSync(t *testing.T, l *Log) {
	t.Helper()
	wantErr(t, "Sync", l.Sync(), api.OK)
}

func mustTrim(t *testing.T, l *Log, upto int64) {
	t.Helper()
	wantErr(t, "Trim", l.Trim(upto), api.OK)
}

// text is n bytes that differ from those of another seed.
func text(seed, n int) string {
	b := make([]byte, n)
	x := uint32(seed)*2654435761 + 1
	for i := range b {
		x = x*1664525 + 1013904223
		b[i] = byte(x >> 24)
	}
	return string(b)
}

// The chapter's examples.
func TestExamples(t *testing.T) {
	half := strings.Repeat("h", 300)
	if Need("a") != 1 || Need(half, half) != 2 {
		t.Errorf("Need: %d, %d", Need("a"), Need(half, half))
	}
	d := disk.New(8)
	l := mustMake(t, d, 2, 4)
	mustAppend(t, l, 1, "a")
	mustAppend(t, l, 2, "b", "c")
	wantNumbers(t, l, 1, 2, 0, 1)
	refuse(t, l, api.ErrSpace, half, half)
	mustSync(t, l)
	wantNumbers(t, l, 1, 2, 2, 1)
	mustTrim(t, l, 1)
	wantNumbers(t, l, 2, 2, 2, 2)
	mustAppend(t, l, 3, half, half)
	wantNumbers(t, l, 2, 3, 2, 0)
	wantErr(t, "Trim(9)", l.Trim(9), api.ErrArg)

	d.Crash(nil)
	l, batches := mustOpen(t, d, 2, 4)
	wantBatches(t, batches, []string{"b", "c"})
	wantNumbers(t, l, 2, 2, 2, 2)
	_, _, err := Open(d, 2, 5)
	wantErr(t, "Open(2, 5)", err, api.ErrBad)
}

// edges are batches about the sectors' edges, and how many sectors they need.
var edges = []struct {
	batch []string
	need  int
}{
	{[]string{""}, 1},
	{[]string{"a"}, 1},
	{[]string{text(1, 491)}, 1},
	{[]string{text(1, 492)}, 1},
	{[]string{text(1, 493)}, 2},
	{[]string{text(1, 600)}, 2},
	{[]string{text(1, 488), ""}, 1},
	{[]string{text(1, 488), "x"}, 2},
	{[]string{text(1, 489), ""}, 2},
	{[]string{"", text(1, 488)}, 1},
	{[]string{"", text(1, 489)}, 2},
	{[]string{text(1, 500), text(2, 500)}, 2},
	{[]string{text(1, 500), text(2, 501)}, 3},
	{[]string{text(1, 600), text(2, 400)}, 2},
	{[]string{text(1, 600), text(2, 401)}, 3},
	{[]string{text(1, 600), text(2, 600), text(3, 308)}, 3},
	{[]string{text(1, 600), text(2, 600), text(3, 309)}, 4},
	{slices.Repeat([]string{""}, 124), 1},
	{slices.Repeat([]string{""}, 125), 2},
	{slices.Repeat([]string{"four"}, 62), 1},
	{slices.Repeat([]string{"four"}, 63), 2},
	{slices.Repeat([]string{""}, 1024), 9},
	{slices.Repeat([]string{text(9, 600)}, 1024), 1209},
}

// P3.1
func TestNeed(t *testing.T) {
	for _, e := range edges {
		if got := Need(e.batch...); got != e.need {
			t.Errorf("Need of %d records = %d, want %d", len(e.batch), got, e.need)
		}
	}
	for n := range 3000 {
		if got, want := Need(text(0, n)), (20+n+511)/512; got != want {
			t.Errorf("Need of %d bytes = %d, want %d", n, got, want)
		}
	}
}

// P3.1: batches that may not be appended are reckoned likewise.
func TestNeedOfWhatIsRefused(t *testing.T) {
	for _, c := range []struct {
		batch []string
		need  int
	}{
		{nil, 1},
		{[]string{}, 1},
		{[]string{text(1, 601)}, 2},
		{[]string{text(1, 1004)}, 2},
		{[]string{text(1, 1005)}, 3},
		{[]string{text(1, 1<<20)}, 2049},
		{slices.Repeat([]string{""}, 1025), 9},
		{slices.Repeat([]string{text(1, 601)}, 1025), 1212},
		{slices.Repeat([]string{""}, 100000), 782},
	} {
		if got := Need(c.batch...); got != c.need {
			t.Errorf("Need of %d records = %d, want %d", len(c.batch), got, c.need)
		}
	}
}

// regions are those that don't fit on 8 sectors.
var regions = []struct{ from, n int }{
	{-1, 2}, {-1, 4}, {0, 1}, {0, 0}, {0, -1}, {3, 1}, {0, 9}, {1, 8}, {5, 4}, {6, 3}, {7, 2}, {8, 2}, {9, 2}, {100, 2},
	{math.MinInt, 2}, {math.MaxInt, 2}, {2, math.MaxInt}, {2, math.MinInt}, {math.MaxInt, math.MaxInt},
	{math.MinInt, math.MinInt}, {math.MinInt, math.MaxInt}, {math.MaxInt, math.MinInt}, {math.MaxInt - 1, 3},
}

func wantNoMake(t *testing.T, d *disk.Disk, from, n int, want api.Errno) {
	t.Helper()
	l, err := Make(d, from, n)
	wantErr(t, fmt.Sprintf("Make(%d, %d)", from, n), err, want)
	if l != nil {
		t.Errorf("a log beside an error")
	}
}

func wantNoOpen(t *testing.T, d *disk.Disk, from, n int, want api.Errno) {
	t.Helper()
	l, batches, err := Open(d, from, n)
	wantErr(t, fmt.Sprintf("Open(%d, %d)", from, n), err, want)
	if l != nil || len(batches) != 0 {
		t.Errorf("a log or batches beside an error")
	}
}

func kill(t *testing.T, d *disk.Disk) {
	t.Helper()
	d.Fuel(0)
	wantErr(t, "Flush without fuel", d.Flush(), api.ErrDead)
}

// P3.2: what Make and Open refuse, in the order of the errors, on disks that are nil, dead, and neither.
func TestMakeAndOpenRefuse(t *testing.T) {
	d, dead := disk.New(8), disk.New(8)
	mustMake(t, dead, 2, 4)
	kill(t, dead)
	for _, r := range regions {
		wantNoMake(t, nil, r.from, r.n, api.ErrNone)
		wantNoOpen(t, nil, r.from, r.n, api.ErrNone)
		for _, one := range []*disk.Disk{d, dead} {
			wantNoMake(t, one, r.from, r.n, api.ErrArg)
			wantNoOpen(t, one, r.from, r.n, api.ErrArg)
		}
	}
	if d.Pending() != 0 {
		t.Errorf("what was refused has written")
	}
	wantNoMake(t, nil, 2, 4, api.ErrNone)
	wantNoOpen(t, nil, 2, 4, api.ErrNone)
	wantNoMake(t, dead, 2, 4, api.ErrDead)
	wantNoOpen(t, dead, 2, 4, api.ErrDead)
	wantNoOpen(t, dead, 2, 5, api.ErrDead)
	dead.Crash(nil)
	mustOpen(t, dead, 2, 4)
}

// P3.2: each region of a disk that does fit; the log is durable behind Make's OK, and lies there alone.
func TestEachRegion(t *testing.T) {
	const size = 7
	for from := range size {
		for n := 2; n <= size-from; n++ {
			d := disk.New(size)
			mustMake(t, d, from, n)
			d.Crash(nil)
			l, batches := mustOpen(t, d, from, n)
			wantBatches(t, batches)
			wantNumbers(t, l, 1, 0, 0, n-1)
			for i := -1; i <= size; i++ {
				for k := -1; k <= size-i; k++ {
					if i < 0 || k < 2 {
						wantNoOpen(t, d, i, k, api.ErrArg)
					} else if i != from || k != n {
						wantNoOpen(t, d, i, k, api.ErrBad)
					}
				}
			}
		}
	}
}

// P3.2: a log that takes the greatest disk, and one at its end.
func TestGreatestRegion(t *testing.T) {
	d := disk.New(4096)
	l := mustMake(t, d, 0, 4096)
	big := slices.Repeat([]string{text(9, 600)}, 1024)
	for number := range int64(3) {
		mustAppend(t, l, number+1, big...)
	}
	wantNumbers(t, l, 1, 3, 0, 4095-3*1209)
	refuse(t, l, api.ErrSpace, big...)
	mustSync(t, l)
	d.Crash(nil)
	_, batches := mustOpen(t, d, 0, 4096)
	wantBatches(t, batches, big, big, big)

	l = mustMake(t, d, 4094, 2)
	mustAppend(t, l, 1, "at the end")
	mustSync(t, l)
	_, batches = mustOpen(t, d, 4094, 2)
	wantBatches(t, batches, []string{"at the end"})
}

// P3.2: as many batches as there are sectors.
func TestManyBatches(t *testing.T) {
	d := disk.New(4096)
	l := mustMake(t, d, 0, 4096)
	var want [][]string
	for i := range 4095 {
		batch := []string{text(i, i%400)}
		mustAppend(t, l, int64(i+1), batch...)
		want = append(want, batch)
	}
	refuse(t, l, api.ErrSpace, "")
	mustSync(t, l)
	l, batches := mustOpen(t, d, 0, 4096)
	wantBatches(t, batches, want...)
	wantNumbers(t, l, 1, 4095, 4095, 0)
}

// P3.2: a region of zeros, of noise, of the same byte all over: no log lies there.
func TestOpenWhereNoLogLies(t *testing.T) {
	fills := []string{"", text(1, 512), text(2, 512), strings.Repeat("\xff", 512), strings.Repeat("\x01", 512), "docket's log", "docket"}
	for _, fill := range fills {
		d := disk.New(6)
		for i := range 6 {
			wantErr(t, "Write", d.Write(i, []byte(fill)), api.OK)
		}
		for from := range 5 {
			for n := 2; n <= 6-from; n++ {
				wantNoOpen(t, d, from, n, api.ErrBad)
			}
		}
		wantErr(t, "Flush", d.Flush(), api.OK)
		mustMake(t, d, 1, 4)
		_, batches := mustOpen(t, d, 1, 4)
		wantBatches(t, batches)
	}
}

// P3.2: a log's sectors, laid elsewhere: it wasn't made there.
func TestOpenOfALogThatWasMadeElsewhere(t *testing.T) {
	d := disk.New(12)
	l := mustMake(t, d, 2, 5)
	mustAppend(t, l, 1, "a", "b")
	mustAppend(t, l, 2, text(1, 600))
	mustSync(t, l)
	for to := range 8 {
		other := disk.New(12)
		for i := range 5 {
			sector, _ := d.Read(2 + i)
			wantErr(t, "Write", other.Write(to+i, sector), api.OK)
		}
		wantErr(t, "Flush", other.Flush(), api.OK)
		if to == 2 {
			_, batches := mustOpen(t, other, to, 5)
			wantBatches(t, batches, []string{"a", "b"}, []string{text(1, 600)})
			continue
		}
		wantNoOpen(t, other, to, 5, api.ErrBad)
	}
}

// P3.2: Make where a log lay already: it is empty, whatever the ring still holds, and numbers begin anew.
func TestMakeAgain(t *testing.T) {
	d := disk.New(8)
	l := mustMake(t, d, 1, 6)
	mustAppend(t, l, 1, "old")
	mustAppend(t, l, 2, text(1, 600))
	mustSync(t, l)
	mustTrim(t, l, 1)
	mustMake(t, d, 1, 6)
	d.Crash(nil)
	l, batches := mustOpen(t, d, 1, 6)
	wantBatches(t, batches)
	wantNumbers(t, l, 1, 0, 0, 5)
	mustAppend(t, l, 1, "new")
	mustSync(t, l)
	_, batches = mustOpen(t, d, 1, 6)
	wantBatches(t, batches, []string{"new"})

	mustMake(t, d, 1, 4)
	wantNoOpen(t, d, 1, 6, api.ErrBad)
	_, batches = mustOpen(t, d, 1, 4)
	wantBatches(t, batches)
}

// P3.2: no log is found in a ring, though records hold a log's own sector, at each place in a batch.
func TestNoLogInARing(t *testing.T) {
	small := disk.New(8)
	mustMake(t, small, 3, 4)
	head, _ := small.Read(3)
	d := disk.New(8)
	l := mustMake(t, d, 0, 8)
	for ahead := range 601 {
		mustAppend(t, l, l.Last()+1, text(1, ahead), string(head), string(head), string(head[:300]))
		mustSync(t, l)
		for from := 1; from < 7; from++ {
			for n := 2; n <= 8-from; n++ {
				wantNoOpen(t, d, from, n, api.ErrBad)
			}
		}
		_, batches := mustOpen(t, d, 0, 8)
		wantBatches(t, batches, []string{text(1, ahead), string(head), string(head), string(head[:300])})
		mustTrim(t, l, l.Last())
		if t.Failed() {
			t.Fatalf("behind a record of %d bytes", ahead)
		}
	}
}

// P3.2: nor where a batch's sectors would begin in so many ways that a mask must be looked for.
func TestNoLogInARingOfManyBeginnings(t *testing.T) {
	d := disk.New(700)
	l := mustMake(t, d, 0, 700)
	head, _ := d.Read(0)
	var later []string
	for i := range 600 {
		// With its frame each of these takes a sector; what it begins with is what the next mask makes of a log's own sector.
		pair := string([]byte{head[0] ^ byte(i), head[1] ^ byte(i>>8)})
		later = append(later, strings.Repeat(pair, 4)+text(i, 500))
	}
	for ahead := range 9 {
		batch := append([]string{text(1, 512-16-4-4-ahead)}, later...)
		mustAppend(t, l, int64(ahead+1), batch...)
		mustSync(t, l)
		for i := 1; i < 700; i++ {
			if sector, _ := d.Read(i); bytes.Equal(sector[:2], head[:2]) {
				t.Fatalf("sector %d of the ring begins as the log's own", i)
			}
		}
		_, batches := mustOpen(t, d, 0, 700)
		wantBatches(t, batches, batch)
		mustTrim(t, l, l.Last())
	}
}

// P3.3: batches at the limits and beyond them; what is refused changes nothing, and writes nothing.
func TestAppendLimits(t *testing.T) {
	d := disk.New(4096)
	l := mustMake(t, d, 0, 4096)
	long, longest, tooLong := text(1, 599), text(1, 600), text(1, 601)
	for _, batch := range [][]string{
		nil, {}, {tooLong}, {"a", tooLong}, {tooLong, "a"}, {longest, longest, tooLong}, {text(1, 100000)},
		slices.Repeat([]string{""}, 1025), slices.Repeat([]string{longest}, 1025), slices.Repeat([]string{"a"}, 5000),
		append(slices.Repeat([]string{""}, 1023), tooLong),
	} {
		refuse(t, l, api.ErrArg, batch...)
	}
	if d.Pending() != 0 {
		t.Errorf("what was refused has written")
	}
	taken := [][]string{
		{""}, {long}, {longest}, {longest, longest}, slices.Repeat([]string{""}, 1023), slices.Repeat([]string{""}, 1024),
		slices.Repeat([]string{longest}, 1024), append(slices.Repeat([]string{""}, 1023), longest),
	}
	room := 4095
	for i, batch := range taken {
		mustAppend(t, l, int64(i+1), batch...)
		room -= Need(batch...)
		wantNumbers(t, l, 1, int64(i+1), 0, room)
	}
	mustSync(t, l)
	d.Crash(nil)
	_, batches := mustOpen(t, d, 0, 4096)
	wantBatches(t, batches, taken...)
}

// P3.3: of the errors the first counts: ErrDead, ErrArg, ErrSpace.
func TestOrderOfErrors(t *testing.T) {
	d := disk.New(2)
	l := mustMake(t, d, 0, 2)
	mustAppend(t, l, 1, "a")
	refuse(t, l, api.ErrArg)
	refuse(t, l, api.ErrArg, text(1, 601))
	refuse(t, l, api.ErrSpace, "")
	refuse(t, l, api.ErrSpace, text(1, 600))
	d.Fuel(0)
	refuse(t, l, api.ErrArg)
	refuse(t, l, api.ErrSpace, "b")
	wantErr(t, "Trim(1)", l.Trim(1), api.ErrArg)
	wantErr(t, "Sync", l.Sync(), api.ErrDead)
	refuse(t, l, api.ErrDead)
	refuse(t, l, api.ErrDead, text(1, 601))
	refuse(t, l, api.ErrDead, "b")
	for _, upto := range []int64{math.MinInt64, -1, 0, 1, math.MaxInt64} {
		wantErr(t, "Trim", l.Trim(upto), api.ErrDead)
	}
}

// P3.3: what was appended lies on the disk, though it may wait.
func TestAppendWrites(t *testing.T) {
	for _, e := range edges {
		d := disk.New(1300)
		l := mustMake(t, d, 0, 1300)
		mustAppend(t, l, 1, e.batch...)
		d.Fuel(3) // a flush, the log's own sector, a flush: nothing is left for the batch
		mustSync(t, l)
		d.Crash(nil)
		_, batches := mustOpen(t, d, 0, 1300)
		wantBatches(t, batches, e.batch)
	}
}

// P3.2, P3.3: each batch of the edges is found again from each place of the ring.
func TestEdgesRoundTheRing(t *testing.T) {
	for _, e := range edges {
		if e.need > 9 {
			continue
		}
		for spare := range 3 {
			n := 1 + e.need + spare
			d := disk.New(n + 2)
			l := mustMake(t, d, 1, n)
			for number := int64(1); number < int64(3*n); number++ {
				mustAppend(t, l, number, e.batch...)
				wantNumbers(t, l, number, number, number-1, spare)
				mustSync(t, l)
				d.Crash(nil)
				var batches [][]string
				l, batches = mustOpen(t, d, 1, n)
				wantBatches(t, batches, e.batch)
				wantNumbers(t, l, number, number, number, spare)
				mustTrim(t, l, number)
				wantNumbers(t, l, number+1, number, number, n-1)
			}
		}
	}
}

// P3.1, P3.2: a record of each length, of all sorts of bytes.
func TestEachLength(t *testing.T) {
	d := disk.New(9)
	l := mustMake(t, d, 0, 9)
	for n := range 601 {
		batch := []string{text(n, n), strings.Repeat("\x00", n), strings.Repeat("\xff", n), "", text(n+1, 600-n)}
		mustAppend(t, l, int64(n+1), batch...)
		mustSync(t, l)
		_, batches := mustOpen(t, d, 0, 9)
		wantBatches(t, batches, batch)
		mustTrim(t, l, int64(n+1))
	}
}

// P3.3: no room, to the sector.
func TestNoRoom(t *testing.T) {
	d := disk.New(6)
	l := mustMake(t, d, 0, 6)
	one, two, three := text(1, 10), text(2, 600), []string{text(3, 600), text(4, 600)}
	mustAppend(t, l, 1, three...)
	refuse(t, l, api.ErrSpace, three...)
	mustAppend(t, l, 2, two)
	refuse(t, l, api.ErrSpace, "")
	refuse(t, l, api.ErrSpace, one)
	mustSync(t, l)
	refuse(t, l, api.ErrSpace, one) // synced isn't trimmed
	mustTrim(t, l, 1)
	wantNumbers(t, l, 2, 2, 2, 3)
	mustAppend(t, l, 3, three...)
	refuse(t, l, api.ErrSpace, one)
	mustSync(t, l)
	_, batches := mustOpen(t, d, 0, 6)
	wantBatches(t, batches, []string{two}, three)

	tiny := mustMake(t, d, 0, 2)
	refuse(t, tiny, api.ErrSpace, two)
	mustAppend(t, tiny, 1, text(1, 492))
	refuse(t, tiny, api.ErrSpace, "")
}

// P3.3, P3.4: Sync, again and again, and with nothing to sync.
func TestSync(t *testing.T) {
	d := disk.New(8)
	l := mustMake(t, d, 0, 8)
	mustSync(t, l)
	wantNumbers(t, l, 1, 0, 0, 7)
	mustAppend(t, l, 1, "a")
	mustAppend(t, l, 2, "b")
	wantNumbers(t, l, 1, 2, 0, 5)
	for range 3 {
		mustSync(t, l)
		wantNumbers(t, l, 1, 2, 2, 5)
	}
	mustAppend(t, l, 3, "c")
	wantNumbers(t, l, 1, 3, 2, 4)
	d.Crash(nil)
	l, batches := mustOpen(t, d, 0, 8)
	wantBatches(t, batches, []string{"a"}, []string{"b"})
	wantNumbers(t, l, 1, 2, 2, 5)
	mustAppend(t, l, 3, "other c")
	mustSync(t, l)
	d.Crash(nil)
	_, batches = mustOpen(t, d, 0, 8)
	wantBatches(t, batches, []string{"a"}, []string{"b"}, []string{"other c"})
}

// P3.3, P3.4: Trim, at its edges, below 0 and above Synced, and of what is trimmed already.
func TestTrim(t *testing.T) {
	d := disk.New(12)
	l := mustMake(t, d, 0, 12)
	refused := func(uptos ...int64) {
		t.Helper()
		first, last, synced, room := l.First(), l.Last(), l.Synced(), l.Room()
		for _, upto := range append(uptos, -1, -2, math.MinInt64, math.MaxInt64) {
			wantErr(t, fmt.Sprintf("Trim(%d)", upto), l.Trim(upto), api.ErrArg)
			wantNumbers(t, l, first, last, synced, room)
		}
	}
	mustTrim(t, l, 0)
	refused(1, 2)
	for number := range int64(5) {
		mustAppend(t, l, number+1, text(int(number), 300*int(number%3)))
	}
	mustTrim(t, l, 0)
	wantNumbers(t, l, 1, 5, 0, 11-6)
	refused(1, 5, 6)
	mustSync(t, l)
	mustAppend(t, l, 6, "six")
	refused(6, 7)
	for _, c := range []struct {
		upto, first int64
		room        int
	}{{0, 1, 4}, {2, 3, 6}, {1, 3, 6}, {0, 3, 6}, {2, 3, 6}, {3, 4, 8}, {5, 6, 10}, {4, 6, 10}, {5, 6, 10}} {
		mustTrim(t, l, c.upto)
		wantNumbers(t, l, c.first, 6, 5, c.room)
		refused(6, 7)
	}
	d.Crash(nil)
	l, batches := mustOpen(t, d, 0, 12)
	wantBatches(t, batches)
	wantNumbers(t, l, 6, 5, 5, 11)
	mustTrim(t, l, 5)
	refused(6)
	mustAppend(t, l, 6, "other six")
	mustSync(t, l)
	mustTrim(t, l, 6)
	wantNumbers(t, l, 7, 6, 6, 11)
}

// P3.3: Trim is durable, and makes nothing synced that wasn't, though it waited with it.
func TestTrimSyncsNothing(t *testing.T) {
	d := disk.New(8)
	l := mustMake(t, d, 0, 8)
	mustAppend(t, l, 1, "a")
	mustAppend(t, l, 2, "b")
	mustSync(t, l)
	mustAppend(t, l, 3, "c")
	mustTrim(t, l, 1)
	wantNumbers(t, l, 2, 3, 2, 5)
	d.Crash([]bool{true, true, true})
	l, batches := mustOpen(t, d, 0, 8)
	wantBatches(t, batches, []string{"b"})
	wantNumbers(t, l, 2, 2, 2, 6)
}

// P3.2, P3.4: a log opened again and again, with and without a crash between, tells the same; numbers go on.
func TestOpenAgainAndAgain(t *testing.T) {
	d := disk.New(10)
	l := mustMake(t, d, 3, 6)
	var want [][]string
	for number := int64(1); number <= 60; number++ {
		batch := []string{text(int(number), int(number)*7%500), text(int(number), 200)}
		for l.Room() < Need(batch...) {
			mustTrim(t, l, l.First())
			want = want[1:]
		}
		mustAppend(t, l, number, batch...)
		mustSync(t, l)
		want = append(want, batch)
		first, last, room := l.First(), l.Last(), l.Room()
		for i := range 4 {
			if i%2 == 1 {
				d.Crash([]bool{true})
			}
			var batches [][]string
			l, batches = mustOpen(t, d, 3, 6)
			wantBatches(t, batches, want...)
			wantNumbers(t, l, first, last, last, room)
		}
		if d.Pending() != 0 {
			t.Errorf("Open leaves writes that wait")
		}
	}
}

// P3.2: batches that were appended, but not synced, aren't told by Open: bytes that lie in the ring are no batch.
func TestOpenOfWhatWasNotSynced(t *testing.T) {
	d := disk.New(8)
	l := mustMake(t, d, 0, 8)
	mustAppend(t, l, 1, "a")
	mustSync(t, l)
	mustAppend(t, l, 2, "b")
	wantErr(t, "Flush", d.Flush(), api.OK)
	for range 3 {
		d.Crash(nil)
		one, batches := mustOpen(t, d, 0, 8)
		wantBatches(t, batches, []string{"a"})
		wantNumbers(t, one, 1, 1, 1, 6)
	}
}

// Bytes of old batches, numbers and sums right, lie behind the last batch and under new ones; none of them comes up.
func TestOldBatchesInTheRing(t *testing.T) {
	d := disk.New(6)
	l := mustMake(t, d, 0, 6)
	for round := range 20 {
		for _, name := range []string{"x", "y", "z", "w", "v"} {
			mustAppend(t, l, l.Last()+1, name)
		}
		if round%2 == 0 {
			wantErr(t, "Flush", d.Flush(), api.OK)
			d.Crash(nil)
			var batches [][]string
			l, batches = mustOpen(t, d, 0, 6)
			wantBatches(t, batches)
			wantNumbers(t, l, l.Last()+1, int64(round/2*5), int64(round/2*5), 5)
			mustAppend(t, l, l.Last()+1, "other x", text(1, 500))
			d.Crash([]bool{round%4 == 0, round%4 != 0})
			l, batches = mustOpen(t, d, 0, 6)
			wantBatches(t, batches)
			continue
		}
		mustSync(t, l)
		mustTrim(t, l, l.Last()-2)
		d.Crash(nil)
		var batches [][]string
		l, batches = mustOpen(t, d, 0, 6)
		wantBatches(t, batches, []string{"w"}, []string{"v"})
		mustTrim(t, l, l.Last())
	}
}

// Records that hold a log's sectors, and whole batches, are records like others.
func TestRecordsThatLookLikeTheLog(t *testing.T) {
	d := disk.New(40)
	l := mustMake(t, d, 0, 40)
	for number := int64(1); number <= 30; number++ {
		var batch []string
		for i := range 6 {
			sector, _ := d.Read(int(number+int64(i)*7) % 40)
			batch = append(batch, text(1, i), string(sector))
		}
		for l.Room() < Need(batch...) {
			mustTrim(t, l, l.First())
		}
		mustAppend(t, l, number, batch...)
		mustSync(t, l)
		d.Crash(nil)
		one, batches := mustOpen(t, d, 0, 40)
		if got := batches[len(batches)-1]; !slices.Equal(got, batch) {
			t.Fatalf("batch %d isn't what was appended", number)
		}
		l = one
	}
}

// Each record is framed by a sum: no damage to a sector that is told of passes, and none panics.
func TestDamage(t *testing.T) {
	d := disk.New(6)
	l := mustMake(t, d, 0, 6)
	want := [][]string{{"a", text(1, 600), ""}, {text(2, 300)}}
	mustAppend(t, l, 1, want[0]...)
	mustAppend(t, l, 2, want[1]...)
	mustSync(t, l)
	used := []int{56, 512, 16 + 12 + 601 - 512, 16 + 4 + 300}
	for i := range 6 {
		sector, _ := d.Read(i)
		for at := range 512 {
			hurt := bytes.Clone(sector)
			hurt[at] ^= 1 << (at % 8)
			c := d.Clone()
			wantErr(t, "Write", c.Write(i, hurt), api.OK)
			_, batches, err := Open(c, 0, 6)
			if err == api.OK {
				wantBatches(t, batches, want...)
			} else {
				wantErr(t, "Open", err, api.ErrBad)
			}
			if i < len(used) && at < used[i] && err == api.OK {
				t.Errorf("a bit of byte %d of sector %d is turned, and Open takes it", at, i)
			}
		}
	}
}

// What lies on the log's own sector, though its sum is right, is taken only if it makes sense.
func TestSenselessTold(t *testing.T) {
	d := disk.New(6)
	l := mustMake(t, d, 1, 4)
	mustAppend(t, l, 1, "a")
	mustSync(t, l)
	numbers := []int64{math.MinInt64, -1, 0, 1, 2, 3, 4, 1000, math.MaxInt64 - 1, math.MaxInt64}
	for _, start := range numbers {
		for _, first := range numbers {
			for _, synced := range numbers {
				c := d.Clone()
				sector := l.packTold(told{start: int(start), first: first, synced: synced})
				wantErr(t, "Write", c.Write(1, sector), api.OK)
				one, batches, err := Open(c, 1, 4)
				sense := start >= 0 && start < 3 && first >= 1 && synced == first-1 || start == 0 && first == 1 && synced == 1
				switch {
				case !sense:
					wantErr(t, "Open", err, api.ErrBad)
				case err != api.OK || int64(len(batches)) != synced-first+1 || one.Last() != synced:
					t.Errorf("start %d, first %d, synced %d: %d batches, error %d", start, first, synced, len(batches), err)
				}
			}
		}
	}
}

// A batch's top, though its sum is right, is taken only if a batch of its kind might be appended.
func TestSenselessTop(t *testing.T) {
	d := disk.New(60)
	l := mustMake(t, d, 0, 60)
	mustAppend(t, l, 1, "a")
	mustSync(t, l)
	for _, count := range []int{0, 2, 100, 1024, 1025, 65535} {
		c := d.Clone()
		sector := append(l.top(count, 0, 1), make([]byte, 100)...)
		wantErr(t, "Write", c.Write(1, sector), api.OK)
		_, batches, err := Open(c, 0, 60)
		if err == api.OK && (count < 1 || count > 1024) || err != api.OK && err != api.ErrBad {
			t.Errorf("%d records: %d batches, error %d", count, len(batches), err)
		}
	}
	long := text(1, 601)
	sector := appendNumber(l.top(1, 0, 1), uint64(l.frame(long)), 4)
	wantErr(t, "Write", d.Write(1, append(sector, long[:492]...)), api.OK)
	wantErr(t, "Write", d.Write(2, []byte(long[492:])), api.OK)
	wantNoOpen(t, d, 0, 60, api.ErrBad)
}

// Types: a nil *Log, at every call.
func TestNilLog(t *testing.T) {
	var l *Log
	for _, batch := range [][]string{nil, {}, {"a"}, {text(1, 601)}, slices.Repeat([]string{""}, 1025)} {
		refuse(t, l, api.ErrNone, batch...)
	}
	wantErr(t, "Sync", l.Sync(), api.ErrNone)
	for _, upto := range []int64{math.MinInt64, -1, 0, 1, math.MaxInt64} {
		wantErr(t, "Trim", l.Trim(upto), api.ErrNone)
	}
	wantNumbers(t, l, 0, 0, 0, 0)
}

// P1 (rules 5, 6): what is handed in is neither changed nor kept.
func TestArgumentsAreNeitherChangedNorKept(t *testing.T) {
	d := disk.New(8)
	l := mustMake(t, d, 0, 8)
	room := []string{"a", "b", text(1, 500), "spare", "spare"}
	before := slices.Clone(room)
	batch := room[:3]
	Need(batch...)
	mustAppend(t, l, 1, batch...)
	if !slices.Equal(room, before) {
		t.Errorf("Append changed its argument")
	}
	clear(room)
	mustSync(t, l)
	_, batches := mustOpen(t, d, 0, 8)
	wantBatches(t, batches, before[:3])
}

// P1 (rule 5): an answer is new memory: written over, spare room included, it changes no other one, and no log.
func TestAnswersAreNewMemory(t *testing.T) {
	d := disk.New(8)
	l := mustMake(t, d, 0, 8)
	want := [][]string{{"a", "b", "c"}, {"d"}, {text(1, 600), "e"}}
	for i, batch := range want {
		mustAppend(t, l, int64(i+1), batch...)
	}
	mustSync(t, l)
	l, batches := mustOpen(t, d, 0, 8)
	_, again := mustOpen(t, d, 0, 8)
	for i := range batches {
		whole := batches[i][:cap(batches[i])]
		for k := range whole {
			whole[k] = "spoilt"
		}
		wantBatches(t, batches[i+1:], want[i+1:]...)
	}
	clear(batches[:cap(batches)])
	wantBatches(t, again, want...)
	wantNumbers(t, l, 1, 3, 3, 7-4)
	_, batches = mustOpen(t, d, 0, 8)
	wantBatches(t, batches, want...)
	mustTrim(t, l, 2)
	mustAppend(t, l, 4, "on")
	mustSync(t, l)
	_, batches = mustOpen(t, d, 0, 8)
	wantBatches(t, batches, want[2], []string{"on"})
}

// A log writes in its region alone, and two on one disk share nothing.
func TestTwoLogsOnADisk(t *testing.T) {
	d := disk.New(12)
	for i := range 12 {
		wantErr(t, "Write", d.Write(i, []byte("mine")), api.OK)
	}
	wantErr(t, "Flush", d.Flush(), api.OK)
	a, b := mustMake(t, d, 1, 4), mustMake(t, d, 6, 5)
	for number := int64(1); number <= 20; number++ {
		mustAppend(t, a, number, text(int(number), 600))
		mustAppend(t, b, number, text(int(number), 10), text(int(number), 600))
		mustSync(t, a)
		wantNumbers(t, b, number, number, number-1, 2)
		mustSync(t, b)
		_, batches := mustOpen(t, d, 1, 4)
		wantBatches(t, batches, []string{text(int(number), 600)})
		_, batches = mustOpen(t, d, 6, 5)
		wantBatches(t, batches, []string{text(int(number), 10), text(int(number), 600)})
		mustTrim(t, a, number)
		mustTrim(t, b, number)
	}
	for _, i := range []int{0, 5, 11} {
		if sector, _ := d.Read(i); !bytes.HasPrefix(sector, []byte("mine\x00")) {
			t.Errorf("sector %d, outside of the logs, is written over", i)
		}
	}
}
