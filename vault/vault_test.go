package vault

import (
	"maps"
	"math"
	"slices"
	"strings"
	"testing"

	"docket/api"
	"docket/disk"
	"docket/pager"
	"docket/space"
)

func wantErr(t *testing.T, what string, got, want api.Errno) {
	t.Helper()
	if got != want {
		t.Errorf("%s: error %d, want %d", what, got, want)
	}
}

func wantNumbers(t *testing.T, v *Vault, done, synced int64) {
	t.Helper()
	if v.Done() != done || v.Synced() != synced {
		t.Errorf("Done %d, Synced %d, want %d, %d", v.Done(), v.Synced(), done, synced)
	}
}

func wantUsed(t *testing.T, v *Vault, want int) {
	t.Helper()
	if used, err := v.Used(); err != api.OK || used != want {
		t.Errorf("Used = %d, error %d, want %d", used, err, want)
	}
}

func usedOf(t *testing.T, v *Vault) int {
	t.Helper()
	used, err := v.Used()
	wantErr(t, "Used", err, api.OK)
	return used
}

// refuseAll holds that no call of a vault that looks at all of it is answered.
func refuseAll(t *testing.T, v *Vault, want api.Errno) {
	t.Helper()
	used, err := v.Used()
	wantErr(t, "Used", err, want)
	if used != 0 {
		t.Errorf("Used = %d beside an error", used)
	}
	wantErr(t, "Check", v.Check(), want)
}

func refuseBegin(t *testing.T, v *Vault, want api.Errno) {
	t.Helper()
	x, err := v.Begin()
	wantErr(t, "Begin", err, want)
	if x != nil {
		t.Errorf("a transaction beside an error")
	}
}

func refuseOpen(t *testing.T, d *disk.Disk, log int, want api.Errno) {
	t.Helper()
	v, err := Open(d, log)
	wantErr(t, "Open", err, want)
	if v != nil {
		t.Errorf("a vault beside an error")
	}
}

func refuseMake(t *testing.T, d *disk.Disk, log int, want api.Errno) {
	t.Helper()
	v, err := Make(d, log)
	wantErr(t, "Make", err, want)
	if v != nil {
		t.Errorf("a vault beside an error")
	}
}

func mustMake(t *testing.T, d *disk.Disk, log int) *Vault {
	t.Helper()
	v, err := Make(d, log)
	if err != api.OK || v == nil {
		t.Fatalf("Make(%d sectors, %d): error %d", d.Size(), log, err)
	}
	wantNumbers(t, v, 0, 0)
	if v.Blocks() != d.Size()-log {
		t.Fatalf("Blocks = %d, want %d", v.Blocks(), d.Size()-log)
	}
	wantUsed(t, v, 2)
	wantErr(t, "Check", v.Check(), api.OK)
	return v
}

// mustOpen opens a vault whose last durable commit is known.
func mustOpen(t *testing.T, d *disk.Disk, log int, done int64) *Vault {
	t.Helper()
	v, err := Open(d, log)
	if err != api.OK || v == nil {
		t.Fatalf("Open(%d sectors, %d): error %d", d.Size(), log, err)
	}
	wantNumbers(t, v, done, done)
	if v.Blocks() != d.Size()-log {
		t.Fatalf("Blocks = %d, want %d", v.Blocks(), d.Size()-log)
	}
	wantErr(t, "Check", v.Check(), api.OK)
	return v
}

func mustBegin(t *testing.T, v *Vault) *Tx {
	t.Helper()
	x, err := v.Begin()
	if err != api.OK || x == nil {
		t.Fatalf("Begin: error %d", err)
	}
	return x
}

func mustSync(t *testing.T, v *Vault) {
	t.Helper()
	wantErr(t, "Sync", v.Sync(), api.OK)
	if v.Synced() != v.Done() {
		t.Errorf("behind Sync: Done %d, Synced %d", v.Done(), v.Synced())
	}
}

func mustPut(t *testing.T, x *Tx, key, value string) {
	t.Helper()
	if err := x.Put(key, value); err != api.OK {
		t.Errorf("Put(%.20q, %.20q..: %d bytes): error %d", key, value, len(value), err)
	}
}

func mustDelete(t *testing.T, x *Tx, key string, want bool) {
	t.Helper()
	if was, err := x.Delete(key); err != api.OK || was != want {
		t.Errorf("Delete(%.20q) = %t, error %d, want %t", key, was, err, want)
	}
}

// wantGet holds that a key has a value.
func wantGet(t *testing.T, x *Tx, key, want string) {
	t.Helper()
	if value, found, err := x.Get(key); err != api.OK || !found || value != want {
		t.Errorf("Get(%.20q) = %.20q.. (%d bytes), %t, error %d, want %.20q.. (%d bytes)", key, value, len(value), found, err, want, len(want))
	}
}

// wantNo holds that a key isn't there.
func wantNo(t *testing.T, x *Tx, key string) {
	t.Helper()
	if value, found, err := x.Get(key); err != api.OK || found || value != "" {
		t.Errorf("Get(%.20q) = %.20q.., %t, error %d, want nothing", key, value, found, err)
	}
}

func wantScan(t *testing.T, x *Tx, from string, most int, want ...api.Pair) {
	t.Helper()
	if pairs, err := x.Scan(from, most); err != api.OK || !slices.Equal(pairs, want) {
		t.Errorf("Scan(%.20q, %d): %d pairs, error %d, want %d", from, most, len(pairs), err, len(want))
	}
}

func mustCommit(t *testing.T, x *Tx, want int64) {
	t.Helper()
	if number, err := x.Commit(); err != api.OK || number != want {
		t.Errorf("Commit = %d, error %d, want %d", number, err, want)
	}
	wantEnded(t, x)
}

// wantEnded holds what a transaction answers that is nil, or isn't open any more.
func wantEnded(t *testing.T, x *Tx) {
	t.Helper()
	refuse(t, x, api.ErrNone)
	refuseCommit(t, x, api.ErrNone)
	x.Abort()
	refuse(t, x, api.ErrNone)
}

// refuse holds that each call of a transaction answers an error, and nothing beside it, whether or not its arguments are
// good; but Commit.
func refuse(t *testing.T, x *Tx, want api.Errno) {
	t.Helper()
	for _, key := range []string{"a", "", "no such key", strings.Repeat("k", 129)} {
		value, found, err := x.Get(key)
		wantErr(t, "Get", err, want)
		if value != "" || found {
			t.Errorf("Get = %.20q.., %t beside an error", value, found)
		}
		wantErr(t, "Put", x.Put(key, "x"), want)
		was, err := x.Delete(key)
		wantErr(t, "Delete", err, want)
		if was {
			t.Errorf("Delete = true beside an error")
		}
	}
	wantErr(t, "Put", x.Put("a", strings.Repeat("x", 49153)), want)
	for _, most := range []int{-1, 0, 1, 99} {
		pairs, err := x.Scan("", most)
		wantErr(t, "Scan", err, want)
		if len(pairs) != 0 {
			t.Errorf("Scan: %d pairs beside an error", len(pairs))
		}
	}
}

func refuseCommit(t *testing.T, x *Tx, want api.Errno) {
	t.Helper()
	number, err := x.Commit()
	wantErr(t, "Commit", err, want)
	if number != 0 {
		t.Errorf("Commit = %d beside an error", number)
	}
}

// wantAll holds all that a transaction sees against pairs.
func wantAll(t *testing.T, x *Tx, want map[string]string) {
	t.Helper()
	pairs := pairsOf(want, "", math.MaxInt)
	wantScan(t, x, "", math.MaxInt, pairs...)
	for _, pair := range pairs {
		wantGet(t, x, pair.Key, pair.Value)
	}
	for _, key := range []string{"no such key", "\x00", strings.Repeat("\xff", 128)} {
		if _, ok := want[key]; !ok {
			wantNo(t, x, key)
		}
	}
}

// holds begins a transaction that looks at all there is, and aborts it; and checks the vault.
func holds(t *testing.T, v *Vault, want map[string]string) {
	t.Helper()
	x := mustBegin(t, v)
	wantAll(t, x, want)
	x.Abort()
	wantEnded(t, x)
	wantErr(t, "Check", v.Check(), api.OK)
	wantUsedFor(t, v, want)
}

// wantUsedFor holds that so many blocks are taken as these pairs may take.
func wantUsedFor(t *testing.T, v *Vault, pairs map[string]string) {
	t.Helper()
	blobs := 0
	for _, value := range pairs {
		blobs += blobOf(value)
	}
	tree := usedOf(t, v) - 2 - blobs
	if tree < min(len(pairs), 1) || tree > 2*len(pairs) {
		t.Errorf("%d pairs, and the tree has %d blocks", len(pairs), tree)
	}
}

// puts commits pairs: keys and values in turn.
func puts(t *testing.T, v *Vault, want int64, texts ...string) {
	t.Helper()
	x := mustBegin(t, v)
	for pair := range slices.Chunk(texts, 2) {
		mustPut(t, x, pair[0], pair[1])
	}
	mustCommit(t, x, want)
	wantErr(t, "Check", v.Check(), api.OK)
}

// pairsOf tells what a Scan tells by the words.
func pairsOf(m map[string]string, from string, most int) []api.Pair {
	var pairs []api.Pair
	for _, key := range slices.Sorted(maps.Keys(m)) {
		if key >= from && len(pairs) < most {
			pairs = append(pairs, api.Pair{Key: key, Value: m[key]})
		}
	}
	return pairs
}

// blobOf tells how many blocks a value takes beside the tree.
func blobOf(value string) int {
	if len(value) <= 63 {
		return 0
	}
	return 1 + (len(value)+511)/512
}

func costOf(value string) int {
	return 2 + blobOf(value)
}

// text is n bytes that differ from those of another seed.
func text(seed, n int) string {
	b := make([]byte, n)
	x := uint32(seed)*2654435761 + 1
	for i := range b {
		x = x*1664525 + 1013904223
		b[i] = byte(x >> 24)
	}
	return string(b)
}

// kill lets a disk die by somebody else's write.
func kill(t *testing.T, d *disk.Disk) {
	t.Helper()
	d.Fuel(0)
	wantErr(t, "Write without fuel", d.Write(0, []byte("lost")), api.ErrDead)
}

// The chapter's examples.
func TestExamples(t *testing.T) {
	v := mustMake(t, disk.New(40), 12)
	if v.Blocks() != 28 {
		t.Errorf("Blocks = %d", v.Blocks())
	}
	x := mustBegin(t, v)
	mustPut(t, x, "a", "x")
	wantGet(t, x, "a", "x")
	mustCommit(t, x, 1)
	used := usedOf(t, v)
	x = mustBegin(t, v)
	mustPut(t, x, "b", text(1, 1000))
	x.Abort()
	wantUsed(t, v, used)
	x = mustBegin(t, v)
	mustDelete(t, x, "c", false)
	mustCommit(t, x, 1)
	wantErr(t, "Check", v.Check(), api.OK)
	x = mustBegin(t, v)
	wantErr(t, "Put of too much", x.Put("a", text(1, 49153)), api.ErrArg)
	wantErr(t, "Put without room", x.Put("a", text(1, 20000)), api.ErrSpace)
	refuse(t, x, api.ErrSpace)
	refuseCommit(t, x, api.ErrSpace)
	wantEnded(t, x)
	holds(t, v, map[string]string{"a": "x"})
}

// P8.1: the least sizes, and one less.
func TestMakeArguments(t *testing.T) {
	dead := disk.New(40)
	kill(t, dead)
	for _, log := range []int{math.MinInt, -1, 0, 2, 5, 33, 34, 39, 40, 41, math.MaxInt} {
		refuseMake(t, nil, log, api.ErrNone)
		refuseOpen(t, nil, log, api.ErrNone)
		d := disk.New(40)
		refuseMake(t, d, log, api.ErrArg)
		refuseOpen(t, d, log, api.ErrArg)
		refuseMake(t, dead, log, api.ErrArg)
		refuseOpen(t, dead, log, api.ErrArg)
		if d.Pending() != 0 {
			t.Errorf("a Make that is refused has written")
		}
	}
	for _, log := range []int{6, 32} {
		refuseMake(t, dead, log, api.ErrDead)
		refuseOpen(t, dead, log, api.ErrDead)
		d := disk.New(40)
		refuseOpen(t, d, log, api.ErrBad)
		mustMake(t, d, log)
		mustOpen(t, d, log, 0)
	}
	for _, log := range []int{6, 2000, 4088} {
		d := disk.New(4096)
		mustMake(t, d, log)
		mustOpen(t, d, log, 0)
	}
	refuseMake(t, disk.New(13), 6, api.ErrArg)
	v := mustMake(t, disk.New(14), 6)
	puts(t, v, 1, "a", "x")
	holds(t, v, map[string]string{"a": "x"})
}

// P8.1: a vault is there durably behind Make, and one that lay there is gone.
func TestMakeIsDurable(t *testing.T) {
	d := disk.New(40)
	for range 3 {
		v := mustMake(t, d, 12)
		if d.Pending() != 0 {
			t.Errorf("behind Make %d writes wait", d.Pending())
		}
		d.Crash(nil)
		v = mustOpen(t, d, 12, 0)
		holds(t, v, nil)
		puts(t, v, 1, "a", "x", "b", text(1, 2000))
		mustSync(t, v)
	}
	v := mustMake(t, d, 13)
	holds(t, v, nil)
	d.Crash(nil)
	refuseOpen(t, d, 12, api.ErrBad)
	holds(t, mustOpen(t, d, 13, 0), nil)
}

// P8.1: what is no vault, or one with another log.
func TestOpenOfNoVault(t *testing.T) {
	d := disk.New(40)
	v := mustMake(t, d, 12)
	puts(t, v, 1, "a", "x", "b", text(1, 2000))
	mustSync(t, v)
	for _, log := range []int{6, 11, 13, 32} {
		refuseOpen(t, d, log, api.ErrBad)
	}
	mustOpen(t, d, 12, 1)

	junk := disk.New(40)
	for i := range 40 {
		junk.Write(i, []byte(text(i, 512)))
	}
	refuseOpen(t, junk, 12, api.ErrBad)

	d = disk.New(40)
	_, err := pager.Make(d, 12)
	wantErr(t, "Make of a pager", err, api.OK)
	refuseOpen(t, d, 12, api.ErrBad)
	for _, work := range []func(x *pager.Tx){
		func(x *pager.Tx) { x.Write(5, []byte("x")) },
		func(x *pager.Tx) { space.Make(x, 28) },
		func(x *pager.Tx) { x.Write(1, []byte("x")) },
		func(x *pager.Tx) { x.Write(1, []byte(text(1, 512))) },
	} {
		p, err := pager.Open(d, 12)
		wantErr(t, "Open of a pager", err, api.OK)
		x, err := p.Begin()
		wantErr(t, "Begin of a pager's", err, api.OK)
		work(x)
		_, err = x.Commit()
		wantErr(t, "Commit of a pager's", err, api.OK)
		wantErr(t, "Sync of a pager", p.Sync(), api.OK)
		refuseOpen(t, d, 12, api.ErrBad)
	}
}

// P8.2: one at a time, and it sees what was committed.
func TestBegin(t *testing.T) {
	v := mustMake(t, disk.New(60), 20)
	x := mustBegin(t, v)
	for range 3 {
		refuseBegin(t, v, api.ErrBusy)
		refuseAll(t, v, api.ErrBusy)
	}
	mustPut(t, x, "a", "x")
	refuseBegin(t, v, api.ErrBusy)
	mustCommit(t, x, 1)
	x = mustBegin(t, v)
	wantGet(t, x, "a", "x")
	x.Abort()
	wantEnded(t, x)
	y := mustBegin(t, v)
	wantEnded(t, x) // and y stays open
	wantGet(t, y, "a", "x")
	refuseBegin(t, v, api.ErrBusy)
	mustCommit(t, y, 1)
}

// P8.2: keys and values at their limits and one past them.
func TestGoodKeysAndValues(t *testing.T) {
	v := mustMake(t, disk.New(700), 300)
	x := mustBegin(t, v)
	want := map[string]string{}
	for i, key := range []string{"a", "\x00", "\xff", " ", "é", strings.Repeat("\x00", 2), strings.Repeat("k", 127), strings.Repeat("k", 128), strings.Repeat("\xff", 128)} {
		for _, size := range []int{0, 1, 62, 63, 64, 65, 511, 512, 513} {
			value := text(i, size)
			mustPut(t, x, key, value)
			want[key] = value
			wantGet(t, x, key, value)
		}
		wantAll(t, x, want)
	}
	mustPut(t, x, "long", text(7, 49152))
	want["long"] = text(7, 49152)
	for _, key := range []string{"", strings.Repeat("k", 129), strings.Repeat("\x00", 4000)} {
		wantErr(t, "Put of a bad key", x.Put(key, "x"), api.ErrArg)
		_, _, err := x.Get(key)
		wantErr(t, "Get of a bad key", err, api.ErrArg)
		_, err = x.Delete(key)
		wantErr(t, "Delete of a bad key", err, api.ErrArg)
	}
	wantErr(t, "Put of a bad value", x.Put("a", text(1, 49153)), api.ErrArg)
	wantErr(t, "Put of a bad value", x.Put("new", text(1, 100000)), api.ErrArg)
	wantNo(t, x, "new")
	wantAll(t, x, want)
	mustCommit(t, x, 1)
	holds(t, v, want)
}

// P8.2: what a transaction does is what it sees.
func TestPutGetDelete(t *testing.T) {
	v := mustMake(t, disk.New(100), 40)
	x := mustBegin(t, v)
	wantNo(t, x, "a")
	mustDelete(t, x, "a", false)
	for _, value := range []string{"x", text(1, 1000), "", text(2, 64), text(3, 63), text(4, 5000), text(4, 4999), "x"} {
		mustPut(t, x, "a", value)
		wantGet(t, x, "a", value)
		wantScan(t, x, "", 9, api.Pair{Key: "a", Value: value})
		wantNo(t, x, "b")
	}
	mustDelete(t, x, "a", true)
	wantNo(t, x, "a")
	mustDelete(t, x, "a", false)
	mustPut(t, x, "b", text(1, 700))
	mustPut(t, x, "a", "y")
	mustDelete(t, x, "b", true)
	wantScan(t, x, "", 9, api.Pair{Key: "a", Value: "y"})
	mustCommit(t, x, 1)
	holds(t, v, map[string]string{"a": "y"})
	x = mustBegin(t, v)
	mustDelete(t, x, "a", true)
	mustCommit(t, x, 2)
	holds(t, v, nil)
	wantUsed(t, v, 2)
}

// P8.2
func TestScan(t *testing.T) {
	v := mustMake(t, disk.New(400), 150)
	x := mustBegin(t, v)
	wantScan(t, x, "", 9)
	want := map[string]string{}
	for i, key := range []string{"b", "a", "c", "ab", "b\x00", "\x00", strings.Repeat("z", 128)} {
		want[key] = text(i, []int{1, 100, 0, 600, 63, 64, 2000}[i])
		mustPut(t, x, key, want[key])
	}
	for _, from := range []string{"", "\x00", "\x00\x00", "a", "aa", "ab", "b", "b\x00", "b\x01", "c", "d", strings.Repeat("z", 127), strings.Repeat("z", 128), strings.Repeat("z", 129), "\xff", strings.Repeat("\xff", 500)} {
		for _, most := range []int{0, 1, 2, 3, 6, 7, 8, math.MaxInt} {
			wantScan(t, x, from, most, pairsOf(want, from, most)...)
		}
		for _, most := range []int{-1, math.MinInt} {
			wantScan(t, x, from, most)
		}
	}
	pairs, _ := x.Scan("", 9)
	pairs[0].Value = "changed"
	wantAll(t, x, want)
	mustCommit(t, x, 1)
	holds(t, v, want)
}

// P8.2: nothing is left of what is aborted, and what it took is free.
func TestAbort(t *testing.T) {
	v := mustMake(t, disk.New(60), 20)
	want := map[string]string{"a": "x", "b": text(1, 700), "c": text(2, 64)}
	puts(t, v, 1, "a", want["a"], "b", want["b"], "c", want["c"])
	used := usedOf(t, v)
	for i := range 30 {
		x := mustBegin(t, v)
		mustPut(t, x, "a", text(i, 3000))
		mustPut(t, x, "d", "y")
		mustDelete(t, x, "b", true)
		if i%3 == 0 {
			wantErr(t, "Put without room", x.Put("e", text(i, 40000)), api.ErrSpace)
		}
		x.Abort()
		wantEnded(t, x)
		wantNumbers(t, v, 1, 0)
		wantUsed(t, v, used)
		holds(t, v, want)
	}
}

// P8.3: what changes nothing is no commit.
func TestCommitOfNothing(t *testing.T) {
	d := disk.New(100)
	v := mustMake(t, d, 40)
	mustCommit(t, mustBegin(t, v), 0)
	want := map[string]string{"a": "x", "b": text(1, 64), "c": "", "d": text(2, 3000)}
	puts(t, v, 1, "a", want["a"], "b", want["b"], "c", want["c"], "d", want["d"])
	pending := d.Pending()
	for _, work := range []func(x *Tx){
		func(x *Tx) {},
		func(x *Tx) { wantAll(t, x, want) },
		func(x *Tx) { mustPut(t, x, "a", "x") },
		func(x *Tx) { mustPut(t, x, "b", want["b"]) },
		func(x *Tx) { mustPut(t, x, "c", "") },
		func(x *Tx) { mustPut(t, x, "d", want["d"]) },
		func(x *Tx) { mustDelete(t, x, "e", false) },
		func(x *Tx) { wantErr(t, "Put", x.Put("", "x"), api.ErrArg) },
		func(x *Tx) { wantErr(t, "Put", x.Put("a", text(1, 49153)), api.ErrArg) },
		func(x *Tx) {
			for _, pair := range pairsOf(want, "", 9) {
				mustPut(t, x, pair.Key, pair.Value)
				mustDelete(t, x, pair.Key+"-", false)
			}
		},
	} {
		x := mustBegin(t, v)
		work(x)
		mustCommit(t, x, 1)
		wantNumbers(t, v, 1, 0)
		if d.Pending() != pending {
			t.Errorf("a commit of nothing has written")
		}
	}
	holds(t, v, want)
}

// P8.3: what changes something is one, though all may be as it was.
func TestCommitNumbers(t *testing.T) {
	v := mustMake(t, disk.New(100), 40)
	want := map[string]string{"a": "x", "b": text(1, 64), "d": text(2, 3000)}
	puts(t, v, 1, "a", want["a"], "b", want["b"], "d", want["d"])
	used := usedOf(t, v)
	for i, work := range []func(x *Tx){
		func(x *Tx) { mustPut(t, x, "a", "y"); mustPut(t, x, "a", "x") },
		func(x *Tx) { mustPut(t, x, "b", ""); mustPut(t, x, "b", want["b"]) },
		func(x *Tx) { mustPut(t, x, "d", text(3, 3000)); mustPut(t, x, "d", want["d"]) },
		func(x *Tx) { mustPut(t, x, "c", ""); mustDelete(t, x, "c", true) },
		func(x *Tx) { mustPut(t, x, "c", text(4, 999)); mustDelete(t, x, "c", true) },
		func(x *Tx) { mustDelete(t, x, "a", true); mustPut(t, x, "a", "x") },
		func(x *Tx) { mustDelete(t, x, "d", true); mustPut(t, x, "d", want["d"]) },
	} {
		x := mustBegin(t, v)
		work(x)
		mustCommit(t, x, int64(i+2))
		wantNumbers(t, v, int64(i+2), v.Synced())
		holds(t, v, want)
		wantUsed(t, v, used)
	}
	x := mustBegin(t, v)
	mustPut(t, x, "c", "")
	mustCommit(t, x, 9)
	x = mustBegin(t, v)
	mustDelete(t, x, "c", true)
	mustCommit(t, x, 10)
	holds(t, v, want)
}

// P8.3: Sync, with and without a transaction that is open.
func TestSync(t *testing.T) {
	d := disk.New(60)
	v := mustMake(t, d, 20)
	mustSync(t, v)
	wantNumbers(t, v, 0, 0)
	puts(t, v, 1, "a", "x")
	wantNumbers(t, v, 1, 0)
	puts(t, v, 2, "b", text(1, 700))
	x := mustBegin(t, v)
	mustPut(t, x, "a", "lost")
	mustSync(t, v)
	wantNumbers(t, v, 2, 2)
	d.Crash(nil)
	v = mustOpen(t, d, 20, 2)
	holds(t, v, map[string]string{"a": "x", "b": text(1, 700)})
	puts(t, v, 3, "a", "y")
	wantNumbers(t, v, 3, 2)
	d.Crash(nil)
	holds(t, mustOpen(t, d, 20, 2), map[string]string{"a": "x", "b": text(1, 700)})
}

// P8.3: a commit that is too much for the log is aborted.
func TestTooMuchForTheLog(t *testing.T) {
	d := disk.New(200)
	v := mustMake(t, d, 6)
	puts(t, v, 1, "a", "x")
	want := map[string]string{"a": "x"}
	used := usedOf(t, v)
	for i := range 5 {
		x := mustBegin(t, v)
		mustPut(t, x, "b", text(i, 3000))
		wantGet(t, x, "b", text(i, 3000))
		refuseCommit(t, x, api.ErrLog)
		wantEnded(t, x)
		wantNumbers(t, v, 1, v.Synced())
		holds(t, v, want)
		wantUsed(t, v, used)
	}
	puts(t, v, 2, "a", "y")
	holds(t, v, map[string]string{"a": "y"})
}

// Types: an error that is neither ErrArg nor ErrNone spoils a transaction, and nothing else.
func TestSpoilt(t *testing.T) {
	v := mustMake(t, disk.New(60), 20)
	want := map[string]string{"a": "x", "b": text(1, 700)}
	puts(t, v, 1, "a", want["a"], "b", want["b"])
	for i := range 6 {
		x := mustBegin(t, v)
		mustPut(t, x, "a", "y")
		wantErr(t, "Put", x.Put("", "y"), api.ErrArg)
		_, err := x.Delete(strings.Repeat("k", 129))
		wantErr(t, "Delete", err, api.ErrArg)
		wantGet(t, x, "a", "y")
		wantErr(t, "Put without room", x.Put([]string{"a", "b", "c"}[i%3], text(i, 49152)), api.ErrSpace)
		refuse(t, x, api.ErrSpace)
		refuseBegin(t, v, api.ErrBusy)
		refuseAll(t, v, api.ErrBusy)
		if i%2 == 0 {
			refuseCommit(t, x, api.ErrSpace)
		} else {
			x.Abort()
		}
		wantEnded(t, x)
		holds(t, v, want)
		wantNumbers(t, v, 1, 0)
	}
	puts(t, v, 2, "c", "z")
}

// Words: a value of at most 63 bytes takes no blob, any other one takes one, of just its bytes.
func TestBlocksOfAValue(t *testing.T) {
	v := mustMake(t, disk.New(400), 150)
	number := int64(0)
	for _, size := range []int{0, 1, 62, 63, 64, 65, 511, 512, 513, 1023, 1024, 1025, 5000, 49151, 49152} {
		number++
		puts(t, v, number, "key", text(size, size))
		wantUsed(t, v, 3+blobOf(text(size, size)))
	}
	x := mustBegin(t, v)
	mustDelete(t, x, "key", true)
	mustCommit(t, x, number+1)
	wantUsed(t, v, 2)
}

// Types: nil.
func TestNil(t *testing.T) {
	var v *Vault
	refuseBegin(t, v, api.ErrNone)
	wantErr(t, "Sync", v.Sync(), api.ErrNone)
	wantNumbers(t, v, 0, 0)
	if v.Blocks() != 0 {
		t.Errorf("Blocks = %d", v.Blocks())
	}
	refuseAll(t, v, api.ErrNone)
	wantEnded(t, nil)
}

// Way of layer 8: a transaction's blocks are a store by what is promoted to them.
var _ api.Store = blocks{}
