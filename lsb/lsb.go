// Package lsb is layer 1: see shared/doc/01-lsb.md.
package lsb

import (
	"bytes"

	"presswork/api"
)

// most is how many bits a single number may have.
const most = 32

// Writer lays bits.
type Writer struct {
	row  []byte // as few bytes as the bits lie in; the bits behind the last one are 0
	size int    // in bits
}

// Reader reads bits.
type Reader struct {
	row []byte
	at  int // in bits
}

// Put lays v behind the row, as a number of n bits.
func (w *Writer) Put(v uint32, n int) api.Errno {
	if w == nil {
		return api.ErrNil
	}
	if n < 0 || n > most || v>>uint(n) != 0 {
		return api.ErrArg
	}
	spread(v, n, w.lay)
	return api.OK
}

// Align lays bits 0 up to a byte's end.
func (w *Writer) Align() api.Errno {
	if w == nil {
		return api.ErrNil
	}
	spread(0, pad(w.size), w.lay)
	return api.OK
}

// Add lays the bits of x behind the row.
func (w *Writer) Add(x *Writer) api.Errno {
	if w == nil || x == nil {
		return api.ErrNil
	}
	// A copy, because x may be w, whose row grows meanwhile.
	row, left := x.Bytes(), x.size
	for _, b := range row {
		n := min(left, 8)
		spread(uint32(b), n, w.lay)
		left -= n
	}
	return api.OK
}

// Len is how many bits there are.
func (w *Writer) Len() int {
	if w == nil {
		return 0
	}
	return w.size
}

// Bytes is the row.
func (w *Writer) Bytes() []byte {
	if w == nil {
		return nil
	}
	return bytes.Clone(w.row)
}

// lay lays one bit, the lowest one of bit.
func (w *Writer) lay(bit byte) {
	within := uint(w.size & 7)
	if within == 0 {
		w.row = append(w.row, 0)
	}
	w.row[w.size>>3] |= (bit & 1) << within
	w.size++
}

// New is a reader of these bytes, at the place 0.
func New(b []byte) *Reader {
	return &Reader{row: bytes.Clone(b)}
}

// Get reads a number of n bits.
func (r *Reader) Get(n int) (uint32, api.Errno) {
	if r == nil {
		return 0, api.ErrNil
	}
	if n < 0 || n > most {
		return 0, api.ErrArg
	}
	if n > r.Left() {
		return 0, api.ErrForm
	}
	return gather(n, r.next), api.OK
}

// Align passes by bits up to a byte's end.
func (r *Reader) Align() {
	if r == nil {
		return
	}
	r.at += pad(r.at)
}

// At is how many bits were read, or passed by.
func (r *Reader) At() int {
	if r == nil {
		return 0
	}
	return r.at
}

// Left is how many bits are left.
func (r *Reader) Left() int {
	if r == nil {
		return 0
	}
	return len(r.row)<<3 - r.at
}

// next reads one bit, of which there must be one left.
func (r *Reader) next() byte {
	bit := r.row[r.at>>3] >> uint(r.at&7) & 1
	r.at++
	return bit
}

// spread hands the n lowest bits of v to lay, the lowest first.
func spread(v uint32, n int, lay func(bit byte)) {
	for i := range n {
		lay(byte(v>>uint(i)) & 1)
	}
}

// gather makes a number of n bits, which next tells, the lowest first.
func gather(n int, next func() byte) uint32 {
	v := uint32(0)
	for i := range n {
		v |= uint32(next()) << uint(i)
	}
	return v
}

// pad is how many bits are missing from size up to a byte's end.
func pad(size int) int {
	return -size & 7
}
