package wal

import (
	"bytes"
	"slices"

	"docket/api"
)

// The log's own sector holds the signature, five numbers of 8 bytes (which sectors are the log's, and what is told of them), and their sum.
//
// A batch holds on its sectors, one behind the other: its top, and for each record a frame and the record's own bytes.
// The top is how many records there are (2 bytes), the mask (2), the batch's number (8), and the sum of those (4).
const (
	signature = "docket's log"
	fieldSize = 8
	sumSize   = 4
	topSize   = 16
	frameSize = 4
	countSize = 2
	maskSize  = 2
)

// lengthBits are those of a frame that are a record's length. With its four bytes a frame has no room for the length beside the whole sum, so the sum's lowest bits go.
const lengthBits = 1<<10 - 1

// packTold makes the log's own sector.
func (l *Log) packTold(t told) []byte {
	packed := []byte(signature)
	for _, field := range [...]int64{int64(l.from), int64(l.ring), int64(t.start), t.first, t.synced} {
		packed = appendNumber(packed, uint64(field), fieldSize)
	}
	return appendNumber(packed, uint64(l.sums.Sum(packed)), sumSize)
}

// readTold reads the log's own sector, if it is one, made for just these sectors.
func (l *Log) readTold() api.Errno {
	sector, err := l.disk.Read(l.from)
	if err != api.OK {
		return err
	}
	field := func(i int) int64 {
		return int64(readNumber(sector[len(signature)+i*fieldSize:][:fieldSize]))
	}
	t := told{start: int(field(2)), first: field(3), synced: field(4)}
	if !bytes.HasPrefix(sector, l.packTold(t)) {
		return api.ErrBad
	}
	if t.start < 0 || t.start >= l.ring || t.first < 1 || t.synced < t.first-1 {
		return api.ErrBad
	}
	l.told = t
	return api.OK
}

// pack makes a batch's sectors.
func (l *Log) pack(number int64, batch []string) []byte {
	size := Need(batch...) * api.Sector
	packed := make([]byte, topSize, size)
	for _, record := range batch {
		packed = appendNumber(packed, uint64(l.frame(record)), frameSize)
		packed = append(packed, record...)
	}
	packed = packed[:size]
	later := packed[api.Sector:]
	mask := chooseMask(later)
	for sector := range slices.Chunk(later, api.Sector) {
		turnBeginning(sector, mask)
	}
	copy(packed, l.top(len(batch), mask, number))
	return packed
}

// top makes the first bytes of a batch.
func (l *Log) top(count int, mask uint64, number int64) []byte {
	top := appendNumber(nil, uint64(count), countSize)
	top = appendNumber(top, mask, maskSize)
	top = appendNumber(top, uint64(number), fieldSize)
	return appendNumber(top, uint64(l.sums.Sum(top)), sumSize)
}

// frame makes what stands ahead of a record.
func (l *Log) frame(record string) uint32 {
	return l.sums.Sum([]byte(record))&^lengthBits | uint32(len(record))
}

// chooseMask finds a mask by which none of a batch's later sectors begins as a log's own sector does: whatever the records hold, no log is found in a ring.
// (Its first sector begins with how many records there are, which are too few for that.)
// Each sector bars one mask, and a batch has fewer sectors than there are masks.
func chooseMask(later []byte) uint64 {
	mask := uint64(0)
	for beginsAsLog(later, mask) {
		mask++
	}
	return mask
}

func beginsAsLog(later []byte, mask uint64) bool {
	barred := readNumber([]byte(signature[:maskSize])) ^ mask
	for sector := range slices.Chunk(later, api.Sector) {
		if readNumber(sector[:maskSize]) == barred {
			return true
		}
	}
	return false
}

// turnBeginning lays the mask over a sector's first bytes, or takes it off again.
func turnBeginning(sector []byte, mask uint64) {
	turned := readNumber(sector[:maskSize]) ^ mask
	copy(sector, appendNumber(nil, turned, maskSize))
}

// readBatches reads the batches that are told of.
func (l *Log) readBatches() ([][]string, api.Errno) {
	var batches [][]string
	for number := l.first; number <= l.synced; number++ {
		batch, err := l.readBatch(number)
		if err != api.OK {
			return nil, err
		}
		batches = append(batches, batch)
		l.needs = append(l.needs, Need(batch...))
	}
	return batches, api.OK
}

// readBatch reads the batch behind those that were read.
func (l *Log) readBatch(number int64) ([]string, api.Errno) {
	r := reader{log: l, place: l.taken()}
	top, err := r.take(topSize)
	if err != api.OK {
		return nil, err
	}
	count := int(readNumber(top[:countSize]))
	r.mask = readNumber(top[countSize:][:maskSize])
	if !bytes.Equal(top, l.top(count, r.mask, number)) {
		return nil, api.ErrBad
	}
	var batch []string
	for range count {
		record, err := r.record()
		if err != api.OK {
			return nil, err
		}
		batch = append(batch, record)
	}
	if !good(batch) {
		return nil, api.ErrBad
	}
	return batch, api.OK
}

// reader goes over a batch's bytes, and reads its sectors as they are wanted: only the bytes tell how many there are.
type reader struct {
	log   *Log
	place int    // of the next sector in the ring, counted from where the first batch begins
	mask  uint64 // of the sectors behind the batch's first one
	rest  []byte // read, but not taken yet
}

func (r *reader) record() (string, api.Errno) {
	head, err := r.take(frameSize)
	if err != api.OK {
		return "", err
	}
	frame := uint32(readNumber(head))
	data, err := r.take(int(frame & lengthBits))
	if err != api.OK {
		return "", err
	}
	record := string(data)
	if r.log.frame(record) != frame {
		return "", api.ErrBad
	}
	return record, api.OK
}

// take tells the next n bytes.
func (r *reader) take(n int) ([]byte, api.Errno) {
	for len(r.rest) < n {
		if r.place == r.log.ring {
			return nil, api.ErrBad
		}
		sector, err := r.log.disk.Read(r.log.sector(r.place))
		if err != api.OK {
			return nil, err
		}
		turnBeginning(sector, r.mask)
		r.rest = append(r.rest, sector...)
		r.place++
	}
	taken := r.rest[:n]
	r.rest = r.rest[n:]
	return taken, api.OK
}

// appendNumber lays size bytes of x behind b, the lowest first.
func appendNumber(b []byte, x uint64, size int) []byte {
	for range size {
		b = append(b, byte(x))
		x >>= 8
	}
	return b
}

// readNumber tells the number that was laid so.
func readNumber(b []byte) uint64 {
	x := uint64(0)
	for i, c := range b {
		x |= uint64(c) << (8 * i)
	}
	return x
}
