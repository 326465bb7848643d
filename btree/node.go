package btree

import (
	"slices"
	"strings"

	"docket/api"
)

// A node lies on a block of its own: its level, and its entries one behind the other, each a key and a value with their
// lengths ahead of them. Zeros fill the block: the first one ends the entries, since no key is empty. (A byte holds any
// level: a tree of more levels would have more blocks than there are numbers.)
const (
	leafLevel  = 1
	levelSize  = 1
	lengthSize = 1
	numberSize = 8 // a block's number has at most so many bytes
	room       = api.Sector - levelSize
)

// node is a part of a tree. A leaf's entries are pairs of the tree; those of a node of a higher level are its kids, each
// with the first key that is found below it, and its block's number as the value.
//
// A leaf that is laid on a block has an entry, any other node two: so a tree has fewer blocks than twice its keys.
type node struct {
	level   int // how many nodes there are on the way from here down to a pair
	entries []entry
	upto    string // all keys below it are less; empty: there is no such bound
}

type entry struct {
	key, value string
}

// spot is where a node lies, and what it must be there. Since each node is held against the keys that lead to it,
// none is met twice in one tree, whatever lies on the blocks.
type spot struct {
	block int
	level int    // 0: any
	first string // its first key; empty: any
	upto  string
}

func (s spot) suits(n node) bool {
	switch {
	case s.level != 0 && n.level != s.level:
		return false
	case s.first != "" && n.entries[0].key != s.first:
		return false
	}
	return s.upto == "" || n.entries[len(n.entries)-1].key < s.upto
}

// kid tells where the node lies that entry i leads to.
func (n node) kid(i int) spot {
	s := spot{
		block: readNumber(n.entries[i].value),
		level: n.level - 1,
		first: n.entries[i].key,
		upto:  n.upto,
	}
	if i+1 < len(n.entries) {
		s.upto = n.entries[i+1].key
	}
	return s
}

// find tells at which entry a key is, or would be.
func (n node) find(key string) (int, bool) {
	return slices.BinarySearchFunc(n.entries, key, func(e entry, key string) int {
		return strings.Compare(e.key, key)
	})
}

// lead tells which entry leads to a key.
func (n node) lead(key string) int {
	i, found := n.find(key)
	if found || i == 0 {
		return i
	}
	return i - 1
}

// wantsMore tells whether a node should get the entries of the one beside it, too: one that is less than half full, but
// none that has no entries at all, since nothing is laid on a block for that one.
func (n node) wantsMore() bool {
	return len(n.entries) > 0 && total(n.entries) < room/2
}

func (e entry) size() int {
	return lengthSize + len(e.key) + lengthSize + len(e.value)
}

func total(entries []entry) int {
	sum := 0
	for _, e := range entries {
		sum += e.size()
	}
	return sum
}

// cut cuts entries into pieces that fit on a block each.
func cut(entries []entry) [][]entry {
	switch {
	case len(entries) == 0:
		return nil
	case total(entries) <= room:
		return [][]entry{entries}
	}
	at := middle(entries)
	return append(cut(entries[:at]), cut(entries[at:])...)
}

// middle tells where to cut so that the greater one of two pieces is as small as can be. Of entries that don't fit on
// a block neither piece is empty, and if they are kids, both have two: a kid takes less than a third of a block.
func middle(entries []entry) int {
	left, right := 0, total(entries)
	for i, e := range entries {
		if left+e.size() > right {
			return i
		}
		left += e.size()
		right -= e.size()
	}
	return len(entries)
}

// pack makes a node's block.
func pack(level int, entries []entry) []byte {
	data := make([]byte, 0, api.Sector)
	data = append(data, byte(level))
	for _, e := range entries {
		data = appendText(data, e.key)
		data = appendText(data, e.value)
	}
	return data[:api.Sector]
}

// unpack reads a node off its block, if one lies there.
func unpack(data []byte) (node, bool) {
	if len(data) != api.Sector {
		return node{}, false
	}
	n := node{level: int(data[0])}
	rest := string(data[levelSize:])
	for rest != "" && rest[0] != 0 {
		var e entry
		var ok bool
		if e.key, rest, ok = cutText(rest); !ok {
			return node{}, false
		}
		if e.value, rest, ok = cutText(rest); !ok {
			return node{}, false
		}
		n.entries = append(n.entries, e)
	}
	return n, strings.Trim(rest, "\x00") == "" && n.isSound()
}

// isSound tells whether a node is one as they are laid on blocks.
func (n node) isSound() bool {
	switch {
	case n.level < leafLevel || len(n.entries) == 0:
		return false
	case n.level > leafLevel && len(n.entries) == 1:
		return false
	}
	last := ""
	for _, e := range n.entries {
		if e.key <= last || !isGoodKey(e.key) || !n.mayHold(e.value) {
			return false
		}
		last = e.key
	}
	return true
}

func (n node) mayHold(value string) bool {
	if n.level == leafLevel {
		return isGoodValue(value)
	}
	return readNumber(value) > 0
}

func isGoodKey(key string) bool {
	return len(key) >= 1 && len(key) <= api.MaxKey
}

func isGoodValue(value string) bool {
	return len(value) <= api.MaxSmall
}

func appendText(data []byte, text string) []byte {
	data = append(data, byte(len(text)))
	return append(data, text...)
}

// cutText takes a text off that appendText has laid, and tells what is behind it.
func cutText(data string) (text, rest string, ok bool) {
	if data == "" {
		return "", "", false
	}
	size := int(data[0])
	rest = data[lengthSize:]
	if size > len(rest) {
		return "", "", false
	}
	return rest[:size], rest[size:], true
}

// packNumber makes a block's number a text, the lowest byte first, without the zeros that would end it.
func packNumber(b int) string {
	var packed []byte
	for x := uint64(b); x > 0; x >>= 8 {
		packed = append(packed, byte(x))
	}
	return string(packed)
}

// readNumber tells the number that was packed so; below 1: it was none.
func readNumber(packed string) int {
	if len(packed) > numberSize {
		return 0
	}
	x := uint64(0)
	for i := range len(packed) {
		x |= uint64(packed[i]) << (8 * i)
	}
	return int(x)
}
