package pager

import "docket/api"

// numberSize is how many bytes of a record are its block's number, the lowest first; the block's own are behind them.
const numberSize = 4

// pack makes a block's record.
func pack(b int, held block) string {
	number := [numberSize]byte{byte(b), byte(b >> 8), byte(b >> 16), byte(b >> 24)}
	return string(number[:]) + string(held[:])
}

// unpack tells which block a record is of, and what that holds.
func unpack(record string) (int, block) {
	b := 0
	for i := range numberSize {
		b |= int(record[i]) << (8 * i)
	}
	var held block
	copy(held[:], record[numberSize:])
	return b, held
}

// take makes what a batch tells what is committed, if it is one that a transaction may have written.
func (p *Pager) take(batch []string) bool {
	last := -1
	for _, record := range batch {
		if len(record) != numberSize+api.Sector {
			return false
		}
		b, held := unpack(record)
		if b <= last || !p.has(b) {
			return false
		}
		p.away[b] = held
		last = b
	}
	return true
}
