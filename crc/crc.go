// Package crc is layer 1, the checksum CRC-32C (Castagnoli): see shared/doc/01-crc.md.
package crc

import (
	"sync"
	"sync/atomic"
)

// polynomial has its bits in reverse, since the register is shifted to the right.
const polynomial = 0x82F63B78

// Table sums by a table that it makes once.
type Table struct {
	once  sync.Once
	steps [256]uint32
	calls atomic.Int64
}

// Sum tells the sum of data.
func Sum(data []byte) uint32 {
	return Update(0, data)
}

// Update tells the sum of some bytes and data behind them; sum is that of those bytes.
func Update(sum uint32, data []byte) uint32 {
	// The last turn of sum is taken back, so that the register goes on where it stood.
	register := ^sum
	for _, b := range data {
		register = shiftByte(register ^ uint32(b))
	}
	return ^register
}

// Sum tells the sum of data; several goroutines may ask at one time.
func (t *Table) Sum(data []byte) uint32 {
	if t == nil {
		return Sum(data)
	}
	t.calls.Add(1)
	t.once.Do(t.fill)
	register := ^uint32(0)
	for _, b := range data {
		register = register>>8 ^ t.steps[byte(register)^b]
	}
	return ^register
}

// Calls tells how many sums t was asked so far.
func (t *Table) Calls() int64 {
	if t == nil {
		return 0
	}
	return t.calls.Load()
}

// fill reckons ahead what eight shifts make of each low byte: the bits above it come through them unchanged, eight places lower.
func (t *Table) fill() {
	for i := range t.steps {
		t.steps[i] = shiftByte(uint32(i))
	}
}

// shiftByte shifts the register right by eight bits, dividing by the polynomial.
func shiftByte(register uint32) uint32 {
	for range 8 {
		low := register & 1
		register >>= 1
		if low == 1 {
			register ^= polynomial
		}
	}
	return register
}
