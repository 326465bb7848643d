package vault

import (
	"strconv"
	"strings"
	"testing"

	"docket/api"
)

// roomFor tells how many blocks, and how many sectors of log, are enough by the words for these transactions, one behind
// the other, from a vault without pairs on.
func roomFor(all [][]op) (blocks, log int) {
	pairs := map[string]string{}
	for _, ops := range all {
		reached, put := map[api.Pair]int{}, map[api.Pair]int{}
		for key, value := range pairs {
			reached[api.Pair{Key: key, Value: value}] = costOf(value)
		}
		for _, o := range ops {
			if o.gone {
				delete(pairs, o.key)
				continue
			}
			pairs[o.key] = o.value
			pair := api.Pair{Key: o.key, Value: o.value}
			reached[pair], put[pair] = costOf(o.value), costOf(o.value)
		}
		blocks = max(blocks, 8, 4*total(reached)+48)
		log = max(log, 6, 4*total(put)+64*len(ops)+32)
	}
	return blocks, log
}

// wantRoom holds that transactions have room, where there is just as much as is enough by the words.
func wantRoom(t *testing.T, all [][]op) {
	t.Helper()
	blocks, log := roomFor(all)
	if blocks+log > api.MaxSectors {
		t.Fatalf("%d blocks and a log of %d are no vault", blocks, log)
	}
	h := newHeld(t, blocks+log, log)
	for _, ops := range all {
		h.commit(ops...) // which holds that an error is allowed: here none is
		if t.Failed() {
			t.FailNow()
		}
	}
	h.look()
}

// longKeys are keys of which a block of the tree holds as few as can be, in an order in which its nodes are cut again and
// again.
func longKeys(n, step int) []string {
	var keys []string
	for i := range n {
		number := strconv.Itoa(10000 + i*step%n)
		keys = append(keys, strings.Repeat("k", 128-len(number))+number)
	}
	return keys
}

// each makes transactions of so many of a list's keys each.
func each(keys []string, many int, make func(i int, key string) op) [][]op {
	var all [][]op
	for i, key := range keys {
		if i%many == 0 {
			all = append(all, nil)
		}
		all[len(all)-1] = append(all[len(all)-1], make(i, key))
	}
	return all
}

func giving(seed, size int) func(i int, key string) op {
	return func(i int, key string) op { return op{key: key, value: text(seed+i, size)} }
}

func taking(i int, key string) op { return op{key: key, gone: true} }

// P8.4: as many pairs as the words have room for, put, put anew and deleted, in each of several orders.
func TestRoomForManyPairs(t *testing.T) {
	t.Parallel()
	for _, step := range []int{1, 7, 489} {
		keys := longKeys(490, step)
		all := append(each(keys, 1, giving(1, 63)), each(keys, 1, giving(2, 63))...)
		wantRoom(t, append(all, each(keys, 1, taking)...))
	}
}

// P8.4: many calls in one transaction.
func TestRoomForLongTransactions(t *testing.T) {
	for _, step := range []int{1, 7, 44} {
		keys := longKeys(45, step)
		wantRoom(t, append(each(keys, 45, giving(1, 63)), each(keys, 45, giving(2, 63))...))
		wantRoom(t, append(each(keys, 5, giving(1, 63)), each(keys, 45, taking)...))
		wantRoom(t, append(each(keys, 9, giving(1, 63)), each(keys, 15, giving(1, 0))...))
	}
	for _, step := range []int{1, 7, 23, 54} {
		keys := longKeys(55, step)
		wantRoom(t, append(each(keys, 1, giving(1, 0)), each(keys, 55, taking)...))
	}
}

// P8.4: blobs of every size that matters.
func TestRoomForBlobs(t *testing.T) {
	for _, size := range []int{64, 512, 513, 5000, 49152} {
		n := min(3000/(4*costOf(text(1, size))), 60)
		keys := longKeys(n-1, 1)
		all := append(each(keys, 1, giving(1, size)), each(keys, 1, giving(2, size))...)
		wantRoom(t, append(all, each(keys, 1, taking)...))
	}
	for _, many := range []int{2, 3, 5} {
		keys := longKeys(many, 1)
		for _, size := range []int{64, 600, 20000} {
			all := append(each(keys, many, giving(1, size)), each(keys, many, giving(2, size))...)
			wantRoom(t, append(all, each(keys, many, taking)...))
		}
	}
}

// P8.4: what is put again and again in one transaction costs its room once.
func TestRoomForTheSamePairs(t *testing.T) {
	for _, size := range []int{0, 63, 64, 3000, 20000} {
		var ops []op
		for i := range 20 {
			ops = append(ops, op{key: "a", value: text(i%2, size)})
			if i%5 == 4 {
				ops = append(ops, op{key: "a", gone: true})
			}
		}
		wantRoom(t, [][]op{ops})
		wantRoom(t, [][]op{{{key: "a", value: text(0, size)}}, ops, ops})
	}
}

// P8.4: transactions of any sort, where there is just as much room as is enough.
func TestRoomForAnything(t *testing.T) {
	for seed := range 60 {
		x := dice(seed)
		var all [][]op
		for range 12 {
			all = append(all, x.ops(6, []int{63, 700, 3000}[seed%3]))
		}
		for blocks, log := roomFor(all); blocks+log > api.MaxSectors; blocks, log = roomFor(all) {
			all = all[:len(all)-1]
		}
		wantRoom(t, all)
	}
}

// P8.4: what was refused, or aborted, takes no room.
func TestRoomBehindRefusals(t *testing.T) {
	h := newHeld(t, 4*3*99+48+600, 600)
	h.commit(op{key: "a", value: text(99, 49152)}, op{key: "b", value: text(98, 49152)})
	var ops []op
	for i := range 20 {
		ops = append(ops, op{key: string(rune('a' + i)), value: text(i, 49152)})
	}
	for i := range 12 {
		w := h.begin()
		w.do(ops...)
		if !w.spoilt {
			t.Errorf("there was room for 20 blobs on %d blocks", h.v.Blocks())
		}
		w.commit()
		h.abort(ops[:4]...)
		h.commit(op{key: "a", value: text(i, 49152)})
		if t.Failed() {
			t.FailNow()
		}
	}
	h.look()
}
