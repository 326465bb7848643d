package space

import (
	"math/bits"

	"docket/api"
)

// set is a set of blocks, laid out as block 0 tells it.
type set [api.Sector]byte

func (s *set) add(b int) {
	s[b/perByte] |= bit(b)
}

func (s *set) remove(b int) {
	s[b/perByte] &^= bit(b)
}

func (s *set) has(b int) bool {
	return s[b/perByte]&bit(b) != 0
}

// bit is a block's own, in the byte that tells of it.
func bit(b int) byte {
	return 1 << (b % perByte)
}

func (s *set) count() int {
	sum := 0
	for _, c := range s {
		sum += bits.OnesCount8(c)
	}
	return sum
}

// write lays the set on block 0. The pages get a copy: they may be anybody's, and do with it what they like.
func (s *set) write(p Pages) api.Errno {
	data := *s
	return p.Write(mapBlock, data[:])
}

// end tells the number behind the last block of those that are told by data, which is as long as the pages like.
func end(data []byte) int {
	for i := len(data) - 1; i >= 0; i-- {
		if data[i] != 0 {
			return i*perByte + bits.Len8(data[i])
		}
	}
	return 0
}
