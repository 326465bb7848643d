package lock

import (
	"fmt"
	"math"
	"strings"
	"testing"

	"docket/api"
)

// Locks are read as they were packed, and those that ask for little are so short that the vault takes no blob for them.
func TestPack(t *testing.T) {
	for _, l := range []api.Lock{
		{Token: "t"},
		{Token: "t", Path: to("a"), Deep: true, Until: math.MinInt64},
		{Token: "t", Path: to("a/b"), Exclusive: true, Owner: "\x00", Until: math.MaxInt64},
		{Token: "t", Path: []string{"-", "0", "\u00e9"}, Deep: true, Exclusive: true, Owner: "/a\x00/b/", Until: -1},
		deep(longest("t", math.MinInt64)),
	} {
		packed := pack(l)
		if read, ok := unpack(l.Token, packed); !same(read, l) || !ok {
			t.Errorf("%+v: %q, read as %+v, %t", l, packed, read, ok)
		}
		if len(keyOf(l.Token)) > api.MaxKey || len(packed) > api.MaxValue {
			t.Errorf("a key of %d bytes, a value of %d", len(keyOf(l.Token)), len(packed))
		}
	}
	if packed := pack(api.Lock{Token: "urn:docket:1", Path: to("docs/a.txt"), Deep: true, Owner: `<owner xmlns="DAV:">me</owner>`, Until: 604800}); len(packed) > 63 {
		t.Errorf("%d bytes of %q", len(packed), packed)
	}
}

// badPairs are pairs that no table has left.
func badPairs() []api.Pair {
	long := longest("t", 9)
	long.Owner += "o"
	pairs := []api.Pair{
		{Key: "wl", Value: "009\x00"}, {Key: "wl t", Value: "009\x00"}, {Key: "wl<", Value: "009\x00"},
		{Key: "wl\xff", Value: "009\x00"}, {Key: "wl" + strings.Repeat("t", 61), Value: "009\x00"}, {Key: "wl" + strings.Repeat("t", 126), Value: "009\x00"},
		{Key: "wl!", Value: pack(long)},
	}
	for _, value := range []string{
		"", "0", "00", "00\x00", "0\x000", "\x00", "\x00\x00", "/", "//", "0/0", "00/a\x00", "009", "009/a", "x", "xx9\x00", "209\x00", "029\x00", " 09\x00", "00 9\x00", "00+9\x00", "0009\x00",
		"00-0\x00", "009 \x00", "00x\x00", "009x\x00", "009223372036854775808\x00", "00-9223372036854775809\x00", "009/\x00", "009//a\x00", "009/a/\x00", "009/.\x00", "009/a/..\x00", "009/\xff\x00",
		"009/" + strings.Repeat("s", 65) + "\x00", "009" + strings.Repeat("/s", 13) + "\x00", "009\x00" + strings.Repeat("o", 513), strings.Repeat("0", 40000), strings.Repeat("/", 40000), strings.Repeat("\x00", 40000),
	} {
		pairs = append(pairs, api.Pair{Key: "wl!", Value: value})
	}
	return pairs
}

// P1 (rules 1 and 3): what is no lock is told to be bad by each call that reads it, and nothing beside that.
func TestBadPairs(t *testing.T) {
	for _, bad := range badPairs() {
		for _, other := range []bool{false, true} {
			h := newHeld(t, 600, 60)
			if other {
				h.add(shared("t", "a/b", 9), 0)
			}
			wantErr(t, "Put", h.x.Put(bad.Key, bad.Value), api.OK)
			t.Run(fmt.Sprintf("%.40q %.40q", bad.Key, bad.Value), func(t *testing.T) { refuse(t, h.table, api.ErrBad) })
			_, err := h.x.Delete(bad.Key)
			wantErr(t, "Delete", err, api.OK)
			h.look()
		}
	}
}

// P1 (rule 1): more locks than a table leaves, some of them clashing: each call ends.
func TestTooManyPairs(t *testing.T) {
	h := newHeld(t, 1200, 300)
	for i := range 100 {
		l := deep(exclusive(fmt.Sprint("t", i), "a", int64(i)))
		wantErr(t, "Put", h.x.Put(keyOf(l.Token), pack(l)), api.OK)
	}
	for _, c := range calls() {
		c.do(h.table)
	}
	for i := range int64(110) {
		h.table.All(i)
		h.table.Add(exclusive("new", "a", i+1), i)
		h.table.Drop(to("a"), i)
	}
}
