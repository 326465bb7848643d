package tree

import (
	"math"
	"strings"
	"testing"

	"docket/api"
)

// Ids are told apart up to the number of calls for which something is promised, and none begins with another.
func TestIDs(t *testing.T) {
	from := dice(7)
	ids := []int64{0, 1, 255, 256, 65535, 65536, 1<<24 - 1, 1 << 24, math.MaxInt32, math.MaxUint32}
	for range 2000 {
		ids = append(ids, int64(from.below(math.MaxInt32))<<1>>from.below(32))
	}
	for _, id := range ids {
		packed := packID(id)
		read := int64(0)
		for i := range len(packed) {
			read = read<<8 + int64(packed[i])
		}
		if read != id || len(packed) != 4 {
			t.Fatalf("packID(%d) = %q", id, packed)
		}
	}
}

// Records and counters are read as they were written, and are so short that the vault takes no blob for them.
func TestRecords(t *testing.T) {
	for _, r := range []record{
		{},
		{kind: api.Dir, id: rootID},
		{kind: api.File, id: 2, etag: 3, size: 4, text: 5, members: 6, props: 7},
		{kind: api.Dir, id: math.MaxUint32, etag: math.MaxInt64, size: api.MaxBody, text: math.MaxUint32, members: api.MaxMembers, props: api.MaxProps},
	} {
		packed := r.pack()
		if read := unpackRecord(packed); read != r || len(packed) > 63 {
			t.Errorf("%+v: %q, read as %+v", r, packed, read)
		}
	}
	for _, n := range []numbers{{}, {etags: 1, ids: 2}, {etags: math.MaxInt64, ids: math.MaxUint32}} {
		packed := n.pack()
		if read := unpackNumbers(packed); read != n || len(packed) > 63 {
			t.Errorf("%+v: %q, read as %+v", n, packed, read)
		}
	}
}

// No key is longer than a vault's may be, and each of one sort begins with what those of its sort are looked for by.
func TestKeys(t *testing.T) {
	long := strings.Repeat("s", api.MaxName)
	for _, key := range []string{
		numbersKey, entryKey(noID, ""), entryKey(math.MaxUint32, strings.Repeat("z", api.MaxSeg)), textKey(math.MaxUint32), usersKey(math.MaxUint32), propsKey(math.MaxUint32),
		propKey(math.MaxUint32, api.Prop{Space: long, Name: long}),
	} {
		if len(key) > api.MaxKey || !strings.HasPrefix(key, "t") {
			t.Errorf("the key %q of %d bytes", key, len(key))
		}
	}
	if !strings.HasPrefix(propKey(300, api.Prop{Space: "x", Name: "p"}), propsKey(300)) || !strings.HasPrefix(entryKey(300, "x"), entryKey(300, "")) {
		t.Errorf("a key doesn't begin as those of its sort")
	}
}
