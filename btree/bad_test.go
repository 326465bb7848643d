package btree

import (
	"bytes"
	"fmt"
	"math"
	"strings"
	"testing"

	"docket/api"
)

// level is a node's block, by its level and its entries: a key, a value, the next key, and so on.
func level(of byte, texts ...string) string {
	block := string([]byte{of})
	for _, text := range texts {
		block += string([]byte{byte(len(text))}) + text
	}
	return block
}

// stored is a store with these blocks, from 1 on.
func stored(t *testing.T, blocks ...string) *Mem {
	t.Helper()
	m := NewMem(99)
	for i, data := range blocks {
		mustTake(t, m, i+1)
		mustWrite(t, m, i+1, data)
	}
	return m
}

// sound is a tree of three levels, on eight blocks, the root the first one, with a key for each letter from a to h.
func sound() []string {
	return []string{
		level(3, "a", "\x02", "e", "\x03"),
		level(2, "a", "\x04", "c", "\x05"),
		level(2, "e", "\x06", "g", "\x07"),
		level(1, "a", "1", "b", "2"),
		level(1, "c", "3", "d", "4"),
		level(1, "e", "5", "f", "6"),
		level(1, "g", "7", "h", "8"),
	}
}

// with is the sound tree with another block in one's stead.
func with(b int, data string) []string {
	blocks := sound()
	blocks[b-1] = data
	return blocks
}

// What the tests of this file lay on blocks is a tree indeed, but where they say otherwise.
func TestSoundTree(t *testing.T) {
	m := stored(t, sound()...)
	x := Open(m, 1)
	want := map[string]string{}
	for i, c := range "abcdefgh" {
		want[string(c)] = fmt.Sprint(i + 1)
	}
	wantTree(t, x, want)
	mustDelete(t, x, "h", true)
	mustPut(t, x, "i", "9")
	delete(want, "h")
	want["i"] = "9"
	wantTree(t, x, want)
}

// P6.5: no node lies there, as the root.
func TestNoNode(t *testing.T) {
	long, full := strings.Repeat("k", 129), strings.Repeat("v", 64)
	for what, data := range map[string]string{
		"zeros":                           "",
		"a text":                          "a text that is no tree, but somewhat longer than a few bytes",
		"ones":                            strings.Repeat("\xff", 512),
		"level 0":                         level(0, "a", "1"),
		"a leaf without keys":             level(1),
		"a node without kids":             level(2),
		"a node with one kid":             level(2, "a", "\x02"),
		"keys that fall":                  level(1, "b", "1", "a", "2"),
		"a key twice":                     level(1, "a", "1", "a", "1"),
		"a key that is too long":          level(1, long, "1"),
		"a value that is too long":        level(1, "a", long[:65]),
		"something behind its end":        level(1, "a", "1") + "\x00x",
		"something at the block's end":    level(1, "a", "1") + strings.Repeat("\x00", 506) + "x",
		"a key without a value":           level(1, "a")[:3] + "\xff",
		"a key over the block's end":      level(1, "a", long[:64], "b", long[:64], long[:128], long[:64]) + "\x7f" + strings.Repeat("z", 182),
		"a value over the block's end":    level(1, "a", full, "b", full, "c", full, "d", full, "e", full, "f", full, "g", full) + "\x01h\x40" + full[:39],
		"a kid 0":                         level(2, "a", "", "b", "\x02"),
		"a kid 0 in a byte":               level(2, "a", "\x02", "b", "\x00"),
		"a kid below 0":                   level(2, "a", "\x02", "b", strings.Repeat("\xff", 8)),
		"a kid's number that is too long": level(2, "a", "\x02", "b", "\x01"+strings.Repeat("\x00", 8)),
	} {
		m := stored(t, data)
		x := Open(m, 1)
		refuseAll(t, x, "a", api.ErrBad)
		refuseAll(t, x, "zz", api.ErrBad)
		wantErr(t, "Get", getErr(x, ""), api.ErrArg)
		if x.Root() != 1 || m.Used() != 1 {
			t.Errorf("Root %d, %d blocks taken", x.Root(), m.Used())
		}
		if t.Failed() {
			t.Fatalf("with %s", what)
		}
	}
}

func getErr(x *Tree, key string) api.Errno {
	_, _, err := x.Get(key)
	return err
}

// P6.5: nodes that are nodes, but don't make up a tree.
func TestNoTree(t *testing.T) {
	for what, blocks := range map[string][]string{
		"a root that is below itself":       with(1, level(3, "a", "\x01", "e", "\x03")),
		"a node that is below itself":       with(2, level(2, "a", "\x02", "c", "\x05")),
		"a kid two levels lower":            with(1, level(3, "a", "\x04", "e", "\x03")),
		"a kid of a level too many":         with(2, level(3, "a", "\x04", "c", "\x05")),
		"one kid for two":                   with(1, level(3, "a", "\x02", "e", "\x02")),
		"one leaf for two":                  with(2, level(2, "a", "\x04", "c", "\x04")),
		"a leaf's key ahead of its node's":  with(4, level(1, "A", "1", "b", "2")),
		"a leaf's key behind its node's":    with(4, level(1, "aa", "1", "b", "2")),
		"a leaf's key at its neighbour's":   with(4, level(1, "a", "1", "c", "2")),
		"a leaf's key past its neighbour's": with(5, level(1, "c", "3", "e", "4")),
		"a kid's key past its neighbour's":  with(2, level(2, "a", "\x04", "e", "\x05")),
		"a leaf without keys":               with(5, level(1)),
		"a node with one kid":               with(2, level(2, "a", "\x04")),
		"a leaf of zeros":                   with(7, ""),
	} {
		x := Open(stored(t, blocks...), 1)
		refuseWhole(t, x, api.ErrBad)
		if x.spoilt != api.OK {
			t.Errorf("what was asked alone has spoilt the tree")
		}
		if t.Failed() {
			t.Fatalf("with %s", what)
		}
	}
}

// P6.5: a leaf that isn't there, or isn't taken, is told as the store tells it.
func TestBlocksThatAreNotThere(t *testing.T) {
	for _, b := range []int{1, 5, 99, 100, math.MaxInt} {
		refuseWhole(t, Open(NewMem(99), b), api.ErrArg)
		wantErr(t, "Get", getErr(Open(NewMem(99), b), "a"), api.ErrArg)
		x := Open(NewMem(99), b)
		wantErr(t, "Put", x.Put("a", "b"), api.ErrArg)
		refuseAll(t, x, "a", api.ErrArg)
	}
	x := Open(stored(t, with(1, level(3, "a", "\x02", "e", "\x63"))...), 1)
	wantGet(t, x, "b", "2", true)
	wantErr(t, "Get", getErr(x, "f"), api.ErrArg)
	refuseWhole(t, x, api.ErrArg)
}

// P6.5, P1 (rule 3): what is bad is told where it is met, and then nothing is changed, neither on the blocks nor in the Tree.
func TestBadIsToldWhereItIsMet(t *testing.T) {
	m := stored(t, with(7, "no leaf")...)
	x := Open(m, 1)
	wantGet(t, x, "a", "1", true)
	wantScan(t, x, "", 6, "a", "1", "b", "2", "c", "3", "d", "4", "e", "5", "f", "6")
	refuseWhole(t, x, api.ErrBad)
	for range 2 {
		wantErr(t, "Get", getErr(x, "g"), api.ErrBad)
		wantErr(t, "Put", x.Put("h", "v"), api.ErrBad)
		_, err := x.Delete("zz")
		wantErr(t, "Delete", err, api.ErrBad)
		wantUsed(t, m, 7)
	}
	wantGet(t, x, "a", "1", true)
	// Here the node that is bad is read when new blocks have been taken already.
	m = stored(t, with(3, "no node")...)
	x = Open(m, 1)
	for range 2 {
		wantErr(t, "Put", x.Put("a", "v"), api.ErrBad)
		wantUsed(t, m, 7)
		for b, data := range with(3, "no node") {
			wantBlock(t, m, b+1, data)
		}
	}
	wantGet(t, x, "a", "1", true)
	if x.Root() != 1 {
		t.Errorf("Root = %d", x.Root())
	}
}

// refusing is a store that takes nothing back, and has an error for what is written.
type refusing struct {
	*Mem
	written api.Errno
}

func (r refusing) Write(int, []byte) api.Errno { return r.written }
func (r refusing) Free(int) api.Errno          { return api.ErrLine }

// Types: an error that the store answers when a change is undone spoils the tree, too, if that is the first one.
func TestUndoSpoils(t *testing.T) {
	for _, c := range []struct{ written, want, later api.Errno }{
		{api.OK, api.ErrBad, api.ErrLine},
		{api.ErrDead, api.ErrDead, api.ErrDead},
	} {
		x := Open(refusing{stored(t, with(3, "no node")...), c.written}, 1)
		wantErr(t, "Put", x.Put("a", "v"), c.want)
		refuseAll(t, x, "a", c.later)
	}
}

// P1 (rule 1): nodes that lead to the same ones over and over would be gone over without an end, if that weren't seen.
func TestManyWays(t *testing.T) {
	var blocks []string
	for i := range 90 {
		next := string([]byte{byte(i + 2)})
		blocks = append(blocks, level(byte(200-i), "a", next, "b", next, "c", next))
	}
	x := Open(stored(t, blocks...), 1)
	refuseAll(t, x, "a", api.ErrBad)
	refuseAll(t, x, "zz", api.ErrBad)
}

// of is a store that answers the same bytes for each block.
type of []byte

func (o of) Read(int) ([]byte, api.Errno) { return o, api.OK }
func (o of) Write(int, []byte) api.Errno  { return api.OK }
func (o of) Take() (int, api.Errno)       { return 1, api.OK }
func (o of) Free(int) api.Errno           { return api.OK }

// P6.5: a block has 512 bytes.
func TestBlocksOfOddLengths(t *testing.T) {
	leaf := filled(level(1, "a", "1"))
	wantGet(t, Open(of(leaf), 1), "a", "1", true)
	for _, n := range []int{0, 1, 5, 511} {
		refuseAll(t, Open(of(leaf[:n]), 1), "a", api.ErrBad)
	}
	for _, n := range []int{1, 512, 5000} {
		refuseAll(t, Open(of(append(bytes.Clone(leaf), make([]byte, n)...)), 1), "a", api.ErrBad)
	}
}

// P1 (rule 1): whatever lies on the blocks, each call ends and doesn't panic; what it tells is in order.
func TestAnyBlocks(t *testing.T) {
	x := dice(1)
	for round := range 1500 {
		m := NewMem(300)
		tree, _ := grown(t, m, 9+x.below(60), 4+x.below(125), x.below(65))
		blocks := mustBlocks(t, tree)
		for range 1 + x.below(3) {
			b := blocks[x.below(len(blocks))]
			data, _ := m.Read(b)
			switch x.below(4) {
			case 0:
				data, _ = m.Read(blocks[x.below(len(blocks))])
			case 1:
				for i := range data {
					data[i] = byte(x.below(256))
				}
			default:
				data[x.below(x.below(512)+1)] = byte(x.below(256))
			}
			wantErr(t, "Write", m.Write(b, data), api.OK)
		}
		for range 9 {
			askAnything(t, m, Open(m, tree.Root()), &x)
		}
		if t.Failed() {
			t.Fatalf("in round %d", round)
		}
	}
}

// askAnything asks a tree this and that, which must tell ErrBad, an error of the store, or something in order.
func askAnything(t *testing.T, m *Mem, tree *Tree, x *dice) {
	t.Helper()
	check := func(what string, err api.Errno) {
		t.Helper()
		if err != api.OK && err != api.ErrBad && err != api.ErrArg && err != api.ErrSpace {
			t.Errorf("%s: error %d", what, err)
		}
	}
	key := keyOf(x.below(70), 4+x.below(125))
	_, _, err := tree.Get(key)
	check("Get", err)
	pairs, err := tree.Scan("", math.MaxInt)
	check("Scan", err)
	for i, p := range pairs {
		if i > 0 && p.Key <= pairs[i-1].Key || !isGoodKey(p.Key) || !isGoodValue(p.Value) {
			t.Errorf("Scan tells %.20q with %.20q", p.Key, p.Value)
		}
	}
	blocks, err := tree.Blocks()
	check("Blocks", err)
	for i, b := range blocks {
		if i > 0 && b <= blocks[i-1] {
			t.Errorf("Blocks = %v", blocks)
		}
	}
	m.Hold() // so that the next one finds the same
	used := m.Used()
	if x.below(2) == 0 {
		err = tree.Put(key, "v")
	} else {
		_, err = tree.Delete(key)
	}
	check("a change", err)
	if err != api.OK && m.Used() != used {
		t.Errorf("%d blocks are taken behind an error, want %d", m.Used(), used)
	}
}
