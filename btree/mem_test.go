package btree

import (
	"bytes"
	"fmt"
	"math"
	"testing"

	"docket/api"
)

func wantErr(t *testing.T, what string, got, want api.Errno) {
	t.Helper()
	if got != want {
		t.Errorf("%s: error %d, want %d", what, got, want)
	}
}

func wantUsed(t *testing.T, m *Mem, want int) {
	t.Helper()
	if m.Used() != want {
		t.Errorf("Used = %d, want %d", m.Used(), want)
	}
}

func mustTake(t *testing.T, s api.Store, want ...int) {
	t.Helper()
	for _, b := range want {
		got, err := s.Take()
		if err != api.OK || got != b {
			t.Fatalf("Take = %d, error %d, want %d", got, err, b)
		}
	}
}

func refuseTake(t *testing.T, m *Mem, want api.Errno) {
	t.Helper()
	b, err := m.Take()
	wantErr(t, "Take", err, want)
	if b != 0 {
		t.Errorf("Take: block %d beside an error", b)
	}
}

func mustWrite(t *testing.T, s api.Store, b int, data string) {
	t.Helper()
	wantErr(t, fmt.Sprintf("Write(%d)", b), s.Write(b, []byte(data)), api.OK)
}

func mustFree(t *testing.T, s api.Store, blocks ...int) {
	t.Helper()
	for _, b := range blocks {
		wantErr(t, fmt.Sprintf("Free(%d)", b), s.Free(b), api.OK)
	}
}

// filled is data and the zeros behind it.
func filled(data string) []byte {
	block := make([]byte, 512)
	copy(block, data)
	return block
}

func wantBlock(t *testing.T, m *Mem, b int, want string) {
	t.Helper()
	got, err := m.Read(b)
	wantErr(t, fmt.Sprintf("Read(%d)", b), err, api.OK)
	if !bytes.Equal(got, filled(want)) {
		t.Errorf("Read(%d) = %.20q.., want %.20q..", b, got, want)
	}
}

// refuseBlock holds that there is no block b, as far as one can ask.
func refuseBlock(t *testing.T, m *Mem, b int, want api.Errno) {
	t.Helper()
	data, err := m.Read(b)
	wantErr(t, fmt.Sprintf("Read(%d)", b), err, want)
	if len(data) != 0 {
		t.Errorf("Read(%d): %d bytes beside an error", b, len(data))
	}
	wantErr(t, fmt.Sprintf("Write(%d)", b), m.Write(b, []byte("x")), want)
	wantErr(t, fmt.Sprintf("Write(%d) of nothing", b), m.Write(b, nil), want)
	wantErr(t, fmt.Sprintf("Write(%d) of too much", b), m.Write(b, make([]byte, 513)), want)
	wantErr(t, fmt.Sprintf("Free(%d)", b), m.Free(b), want)
}

// P6.1: how many blocks there are, from 1 on, the least first.
func TestMemTakes(t *testing.T) {
	for _, c := range []struct{ asked, blocks int }{
		{math.MinInt, 0}, {-1, 0}, {0, 0}, {1, 1}, {2, 2}, {9, 9}, {4095, 4095}, {4096, 4096}, {4097, 4096}, {math.MaxInt, 4096},
	} {
		m := NewMem(c.asked)
		wantUsed(t, m, 0)
		for b := 1; b <= c.blocks; b++ {
			mustTake(t, m, b)
		}
		for range 2 {
			refuseTake(t, m, api.ErrSpace)
			wantUsed(t, m, c.blocks)
		}
		for _, b := range []int{0, c.blocks + 1} {
			refuseBlock(t, m, b, api.ErrArg)
		}
	}
}

// P6.1: the least block is taken again that was given back.
func TestMemTakesTheLeast(t *testing.T) {
	m := NewMem(9)
	mustTake(t, m, 1, 2, 3, 4, 5, 6)
	mustFree(t, m, 5, 2, 4)
	wantUsed(t, m, 3)
	mustTake(t, m, 2, 4)
	mustFree(t, m, 1)
	mustTake(t, m, 1, 5, 7, 8, 9)
	refuseTake(t, m, api.ErrSpace)
	mustFree(t, m, 9)
	mustTake(t, m, 9)
}

// P6.1: a block is zero till it is written; what is written has zeros behind it, whatever was there.
func TestMemReadsAndWrites(t *testing.T) {
	m := NewMem(3)
	mustTake(t, m, 1, 2, 3)
	for b := 1; b <= 3; b++ {
		wantBlock(t, m, b, "")
	}
	full := string(bytes.Repeat([]byte("full"), 128))
	for _, data := range []string{"a", full, "bcd", "", full[:511], "\x00e", full} {
		mustWrite(t, m, 2, data)
		wantBlock(t, m, 2, data)
		wantErr(t, "Write of 513 bytes", m.Write(2, make([]byte, 513)), api.ErrArg)
		wantErr(t, "Write of much more", m.Write(2, make([]byte, 5000)), api.ErrArg)
		wantBlock(t, m, 2, data)
	}
	wantBlock(t, m, 1, "")
	wantBlock(t, m, 3, "")
}

// P6.1: what isn't taken; and a block that was given back is zero when it is taken anew.
func TestMemBlocksThatAreNotTaken(t *testing.T) {
	m := NewMem(4)
	for _, b := range []int{math.MinInt, -4096, -1, 0, 1, 2, 4, 5, 4096, 4097, math.MaxInt} {
		refuseBlock(t, m, b, api.ErrArg)
	}
	mustTake(t, m, 1, 2, 3)
	mustWrite(t, m, 2, "old")
	mustWrite(t, m, 3, "stays")
	mustFree(t, m, 2)
	for range 2 {
		refuseBlock(t, m, 2, api.ErrArg)
		refuseBlock(t, m, 4, api.ErrArg)
	}
	wantUsed(t, m, 2)
	mustTake(t, m, 2)
	wantBlock(t, m, 2, "")
	wantBlock(t, m, 3, "stays")
}

// P6.1: what is held is never written, and stays taken; what is taken later isn't held, until Hold is told again.
func TestMemHold(t *testing.T) {
	m := NewMem(6)
	m.Hold()
	mustTake(t, m, 1, 2, 3)
	mustWrite(t, m, 1, "a")
	mustFree(t, m, 2)
	m.Hold()
	mustTake(t, m, 2, 4)
	held := func(b int, data string) {
		t.Helper()
		for range 2 {
			wantErr(t, "Write of a held block", m.Write(b, []byte("x")), api.ErrBusy)
			wantErr(t, "Write of nothing", m.Write(b, nil), api.ErrBusy)
			wantErr(t, "Write of too much", m.Write(b, make([]byte, 513)), api.ErrArg)
			mustFree(t, m, b)
			wantBlock(t, m, b, data)
		}
	}
	held(1, "a")
	held(3, "")
	wantUsed(t, m, 4)
	for _, b := range []int{2, 4} {
		mustWrite(t, m, b, "b")
		wantBlock(t, m, b, "b")
	}
	mustFree(t, m, 4)
	m.Hold()
	held(2, "b")
	held(1, "a")
	mustTake(t, m, 4, 5)
	mustFree(t, m, 5, 4)
	wantUsed(t, m, 3)
}

// Types: a nil *Mem.
func TestNilMem(t *testing.T) {
	var m *Mem
	m.Hold()
	for _, b := range []int{math.MinInt, -1, 0, 1, math.MaxInt} {
		refuseBlock(t, m, b, api.ErrNone)
	}
	refuseTake(t, m, api.ErrNone)
	wantUsed(t, m, 0)
}

// P1 (rules 5 and 6): what is handed in is neither changed nor kept, answers are new memory, and two stores are apart.
func TestMemMemory(t *testing.T) {
	m, other := NewMem(3), NewMem(3)
	mustTake(t, m, 1, 2)
	mustTake(t, other, 1)
	data := []byte("abc behind it")
	wantErr(t, "Write", m.Write(1, data[:3]), api.OK)
	wantErr(t, "Write", m.Write(2, data[:3]), api.OK)
	if string(data) != "abc behind it" {
		t.Errorf("Write has changed its argument")
	}
	clear(data)
	one, _ := m.Read(1)
	two, _ := m.Read(1)
	one = one[:cap(one)]
	for i := range one {
		one[i] = 0xEE
	}
	if !bytes.Equal(two, filled("abc")) {
		t.Errorf("two answers share memory")
	}
	wantBlock(t, m, 1, "abc")
	wantBlock(t, m, 2, "abc")
	wantBlock(t, other, 1, "")
	wantUsed(t, other, 1)
}
