package crc

import (
	"bytes"
	"hash/crc32"
	"strings"
	"sync"
	"testing"
)

// known are sums that are told elsewhere: the chapter's examples, and those of RFC 3720, B.4.
var known = []struct {
	data string
	sum  uint32
}{
	{"", 0},
	{"123456789", 0xE3069283},
	{"\x00", 0x527D5351},
	{"The quick brown fox jumps over the lazy dog", 0x22620404},
	{strings.Repeat("\x00", 32), 0x8A9136AA},
	{strings.Repeat("\xff", 32), 0x62A8AB43},
	{rising(0, 1, 32), 0x46DD794E},
	{rising(31, -1, 32), 0x113FDB5C},
}

func rising(first, step, n int) string {
	b := make([]byte, n)
	for i := range b {
		b[i] = byte(first + step*i)
	}
	return string(b)
}

// noise is bytes of all values without a short period.
func noise(n int) []byte {
	b := make([]byte, n)
	x := uint32(1)
	for i := range b {
		x = x*1664525 + 1013904223
		b[i] = byte(x >> 24)
	}
	return b
}

// other is the sum as another program reckons it.
func other(data []byte) uint32 {
	return crc32.Checksum(data, crc32.MakeTable(crc32.Castagnoli))
}

// byWords is the sum word by word as the chapter defines it.
func byWords(data []byte) uint32 {
	register := uint32(0xFFFFFFFF)
	for _, b := range data {
		register ^= uint32(b)
		for i := 0; i < 8; i++ {
			if register&1 != 0 {
				register = register>>1 ^ 0x82F63B78
			} else {
				register >>= 1
			}
		}
	}
	return register ^ 0xFFFFFFFF
}

// P1.1, P1.2
func TestKnownSums(t *testing.T) {
	var table, none = &Table{}, (*Table)(nil)
	for _, k := range known {
		data := []byte(k.data)
		if got := Sum(data); got != k.sum {
			t.Errorf("Sum(%q) = %#x, want %#x", k.data, got, k.sum)
		}
		if got := Update(0, data); got != k.sum {
			t.Errorf("Update(0, %q) = %#x, want %#x", k.data, got, k.sum)
		}
		if got := table.Sum(data); got != k.sum {
			t.Errorf("Table.Sum(%q) = %#x, want %#x", k.data, got, k.sum)
		}
		if got := none.Sum(data); got != k.sum {
			t.Errorf("nil Table.Sum(%q) = %#x, want %#x", k.data, got, k.sum)
		}
	}
}

// P1.1, P1.2: every byte, alone and behind another one, so that each entry of a table counts.
func TestEachByte(t *testing.T) {
	var table Table
	for i := range 256 {
		for _, data := range [][]byte{{byte(i)}, {0x5A, byte(i)}, {byte(i), byte(i), byte(i)}} {
			want := byWords(data)
			if Sum(data) != want || table.Sum(data) != want {
				t.Errorf("%v: Sum %#x, Table.Sum %#x, want %#x", data, Sum(data), table.Sum(data), want)
			}
		}
	}
}

// P1.1, P1.2: each short length, and long ones about powers of two.
func TestLengths(t *testing.T) {
	var table Table
	all := noise(1<<20 + 1)
	var lengths []int
	for n := range 600 {
		lengths = append(lengths, n)
	}
	lengths = append(lengths, 4095, 4096, 4097, 65535, 65536, 65537, 1<<20-1, 1<<20, 1<<20+1)
	for _, n := range lengths {
		data := all[:n]
		want := other(data)
		if byWords(data) != want {
			t.Fatalf("the test's own sums differ at %d bytes", n)
		}
		if got := Sum(data); got != want {
			t.Errorf("Sum of %d bytes = %#x, want %#x", n, got, want)
		}
		if got := table.Sum(data); got != want {
			t.Errorf("Table.Sum of %d bytes = %#x, want %#x", n, got, want)
		}
		if got := (*Table)(nil).Sum(data); got != want {
			t.Errorf("nil Table.Sum of %d bytes = %#x, want %#x", n, got, want)
		}
	}
}

// P1.1
func TestUpdateOfTwoPieces(t *testing.T) {
	if got := Update(Sum([]byte("1234")), []byte("56789")); got != 0xE3069283 {
		t.Errorf("1234, 56789: %#x", got)
	}
	data := noise(300)
	want := Sum(data)
	for i := range len(data) + 1 {
		if got := Update(Sum(data[:i]), data[i:]); got != want {
			t.Errorf("in pieces of %d and %d bytes: %#x, want %#x", i, len(data)-i, got, want)
		}
	}
}

// P1.1
func TestUpdateOfManyPieces(t *testing.T) {
	data := noise(5000)
	want := Sum(data)
	for _, size := range []int{1, 2, 3, 7, 64, 512, 4999} {
		sum := uint32(0)
		for rest := data; len(rest) > 0; {
			n := min(size, len(rest))
			sum = Update(sum, rest[:n])
			rest = rest[n:]
		}
		if sum != want {
			t.Errorf("in pieces of %d bytes: %#x, want %#x", size, sum, want)
		}
	}
}

// P1.1: no bytes behind others leave each sum as it is, at both ends of its type, too.
func TestUpdateByNothing(t *testing.T) {
	for _, sum := range []uint32{0, 1, 0x7FFFFFFF, 0x80000000, 0xE3069283, 0xFFFFFFFF} {
		if got := Update(sum, nil); got != sum {
			t.Errorf("Update(%#x, nil) = %#x", sum, got)
		}
		if got := Update(sum, []byte{}); got != sum {
			t.Errorf("Update(%#x, empty) = %#x", sum, got)
		}
	}
}

// P1.1: sums that no one reckoned ahead are gone on from likewise.
func TestUpdateFromAnySum(t *testing.T) {
	castagnoli := crc32.MakeTable(crc32.Castagnoli)
	data := noise(40)
	for _, sum := range []uint32{0, 1, 0x80000000, 0xFFFFFFFE, 0xFFFFFFFF} {
		if got, want := Update(sum, data), crc32.Update(sum, castagnoli, data); got != want {
			t.Errorf("Update(%#x, ..) = %#x, want %#x", sum, got, want)
		}
	}
}

// P1 (rules 1, 4): nil and empty are one and the same, and nothing panics.
func TestNoBytes(t *testing.T) {
	var table Table
	var none *Table
	for _, data := range [][]byte{nil, {}} {
		if Sum(data) != 0 || Update(0, data) != 0 || table.Sum(data) != 0 || none.Sum(data) != 0 {
			t.Errorf("the sum of no bytes isn't 0")
		}
	}
	if got := table.Calls(); got != 2 {
		t.Errorf("Calls = %d, want 2", got)
	}
}

// P1.2
func TestCalls(t *testing.T) {
	var table Table
	if got := table.Calls(); got != 0 {
		t.Errorf("Calls of a zero Table = %d", got)
	}
	for i := range 100 {
		table.Sum(noise(i))
		if got := table.Calls(); got != int64(i+1) {
			t.Fatalf("Calls = %d behind %d sums", got, i+1)
		}
	}
	table.Calls()
	Sum([]byte("a"))
	Update(0, []byte("a"))
	(*Table)(nil).Sum([]byte("a"))
	if got := table.Calls(); got != 100 {
		t.Errorf("Calls = %d, want 100: what others were asked counts", got)
	}
}

// P1.2 and rule 6: two tables share nothing.
func TestTablesCountApart(t *testing.T) {
	var a, b Table
	a.Sum([]byte("x"))
	a.Sum([]byte("y"))
	b.Sum([]byte("z"))
	if a.Calls() != 2 || b.Calls() != 1 {
		t.Errorf("Calls = %d and %d, want 2 and 1", a.Calls(), b.Calls())
	}
}

// P1.2: of a nil Table.
func TestNilTable(t *testing.T) {
	var none *Table
	for range 3 {
		if got := none.Sum([]byte("123456789")); got != 0xE3069283 {
			t.Errorf("Sum = %#x", got)
		}
		if got := none.Calls(); got != 0 {
			t.Errorf("Calls = %d", got)
		}
	}
}

// The table is made at the first sum, and stands from then on: a mark that is set in it is still there behind further sums.
func TestTableIsMadeOnce(t *testing.T) {
	var table Table
	if table.steps != [256]uint32{} {
		t.Errorf("a zero Table has a table ahead of its first sum")
	}
	table.Calls()
	if table.steps != [256]uint32{} {
		t.Errorf("Calls makes the table")
	}
	table.Sum([]byte("a"))
	made := table.steps
	if made == [256]uint32{} {
		t.Fatalf("the first sum makes no table")
	}
	table.steps[7]++
	made[7]++
	table.Sum([]byte("b"))
	if table.steps != made {
		t.Errorf("the second sum makes the table anew")
	}
}

// P1.2: first sums, further sums and Calls by many at one time.
func TestTableByMany(t *testing.T) {
	const askers, each = 16, 200
	for range 20 {
		var table Table
		var group sync.WaitGroup
		start := make(chan struct{})
		for i := range askers {
			group.Go(func() {
				data := noise(i * 37)
				want := other(data)
				<-start
				last := int64(0)
				for range each {
					if got := table.Sum(data); got != want {
						t.Errorf("asker %d: %#x, want %#x", i, got, want)
					}
					now := table.Calls()
					if now <= last || now > askers*each {
						t.Errorf("asker %d: Calls = %d behind %d", i, now, last)
					}
					last = now
				}
			})
		}
		close(start)
		group.Wait()
		if got := table.Calls(); got != askers*each {
			t.Fatalf("Calls = %d, want %d", got, askers*each)
		}
	}
}

// P1 (rule 5): what is handed in stays as it was, its spare room included.
func TestArgumentsStay(t *testing.T) {
	whole := noise(600)
	before := bytes.Clone(whole)
	data := whole[100:300]
	var table Table
	Sum(data)
	Update(0x12345678, data)
	table.Sum(data)
	(*Table)(nil).Sum(data)
	if !bytes.Equal(whole, before) {
		t.Errorf("an argument was changed")
	}
}

// P1 (rules 5, 6): nothing is kept of what was handed in, nor of a call ahead.
func TestNothingIsKept(t *testing.T) {
	var table Table
	data := []byte("123456789")
	for range 3 {
		if Sum(data) != 0xE3069283 || table.Sum(data) != 0xE3069283 {
			t.Errorf("a sum hangs on the one ahead")
		}
	}
	data[0] = 'x'
	want := other(data)
	if Sum(data) != want || table.Sum(data) != want {
		t.Errorf("a sum hangs on what its argument was ahead")
	}
}
