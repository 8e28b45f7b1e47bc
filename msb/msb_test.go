package msb_test

import (
	"bytes"
	"math"
	"testing"

	"presswork/api"
	"presswork/msb"
)

// number is v as a number of n bits.
type number struct {
	v uint32
	n int
}

// greatest is the greatest number of n bits.
func greatest(n int) uint32 { return uint32(uint64(1)<<n - 1) }

// model is a row of bits, one a byte: what the packed row is held against.
type model []byte

func (m *model) put(v uint32, n int) {
	for i := n - 1; i >= 0; i-- {
		*m = append(*m, byte(v>>i&1))
	}
}

func (m *model) align() {
	for len(*m)%8 != 0 {
		*m = append(*m, 0)
	}
}

func (m model) bytes() []byte {
	out := make([]byte, (len(m)+7)/8)
	for i, bit := range m {
		if bit == 1 {
			out[i/8] += byte(128 >> (i % 8))
		}
	}
	return out
}

// rough is a row of numbers that look rough, the same in each run.
type rough uint64

func (r *rough) next(below int) int {
	*r = *r*6364136223846793005 + 1442695040888963407
	return int(uint64(*r>>33) % uint64(below))
}

func (r *rough) number() number {
	n := r.next(33)
	return number{uint32(r.next(1<<31)<<1|r.next(2)) & greatest(n), n}
}

func put(t *testing.T, w *msb.Writer, l ...number) {
	t.Helper()
	for _, x := range l {
		if e := w.Put(x.v, x.n); e != api.OK {
			t.Fatalf("Put(%d, %d) = %v", x.v, x.n, e)
		}
	}
}

func row(t *testing.T, l ...number) *msb.Writer {
	t.Helper()
	w := new(msb.Writer)
	put(t, w, l...)
	return w
}

func wantRow(t *testing.T, w *msb.Writer, bits int, b ...byte) {
	t.Helper()
	if got := w.Len(); got != bits {
		t.Errorf("Len = %d, want %d", got, bits)
	}
	if got := w.Bytes(); !bytes.Equal(got, b) {
		t.Errorf("Bytes = %x, want %x", got, b)
	}
}

func wantGet(t *testing.T, r *msb.Reader, n int, v uint32, e api.Errno) {
	t.Helper()
	if gv, ge := r.Get(n); gv != v || ge != e {
		t.Errorf("Get(%d) = %d, %v, want %d, %v", n, gv, ge, v, e)
	}
}

func wantPlace(t *testing.T, r *msb.Reader, at, left int) {
	t.Helper()
	if r.At() != at || r.Left() != left {
		t.Errorf("At, Left = %d, %d, want %d, %d", r.At(), r.Left(), at, left)
	}
}

// P2.1: the chapter's examples.
func TestPutExamples(t *testing.T) {
	wantRow(t, row(t, number{1, 1}, number{2, 2}), 3, 0xc0)
	wantRow(t, row(t, number{300, 9}), 9, 0x96, 0x00)
	w := new(msb.Writer)
	if e := w.Put(2, 1); e != api.ErrArg {
		t.Errorf("Put(2, 1) = %v", e)
	}
	if e := w.Put(0, 33); e != api.ErrArg {
		t.Errorf("Put(0, 33) = %v", e)
	}
	wantRow(t, w, 0)
}

// P2.1: rows whose bytes are written out, within a byte and over its end.
func TestPutWrittenOut(t *testing.T) {
	wantRow(t, row(t, number{1, 8}), 8, 0x01)
	wantRow(t, row(t, number{1, 9}), 9, 0x00, 0x80)
	wantRow(t, row(t, number{0x314159, 24}, number{0x265359, 24}), 48, 0x31, 0x41, 0x59, 0x26, 0x53, 0x59)
	wantRow(t, row(t, number{0x12345678, 32}), 32, 0x12, 0x34, 0x56, 0x78)
	wantRow(t, row(t, number{0xf, 4}, number{0x12345678, 32}), 36, 0xf1, 0x23, 0x45, 0x67, 0x80)
}

// P2.1: the greatest v of each n is laid, the least above it is not.
func TestPutGreatest(t *testing.T) {
	for n := 0; n <= 32; n++ {
		w := row(t, number{greatest(n), n})
		m := model{}
		m.put(greatest(n), n)
		wantRow(t, w, n, m.bytes()...)
		if n == 32 {
			continue
		}
		for _, v := range []uint32{greatest(n) + 1, 1 << 31, math.MaxUint32} {
			if e := w.Put(v, n); e != api.ErrArg {
				t.Errorf("Put(%d, %d) = %v", v, n, e)
			}
		}
		wantRow(t, w, n, m.bytes()...)
	}
}

// P2.1: an n that may not be lays nothing, whatever v is.
func TestPutWrongCount(t *testing.T) {
	w := row(t, number{5, 3})
	for _, n := range []int{-1, 33, 34, 64, 65, -32, -64, 1 << 32, math.MaxInt, math.MinInt} {
		for _, v := range []uint32{0, 1, math.MaxUint32} {
			if e := w.Put(v, n); e != api.ErrArg {
				t.Errorf("Put(%d, %d) = %v", v, n, e)
			}
		}
	}
	wantRow(t, w, 3, 0xa0)
}

// P2.1: the zero value is a row without bits, and stays one by what lays none.
func TestZeroWriter(t *testing.T) {
	var w msb.Writer
	wantRow(t, &w, 0)
	put(t, &w, number{0, 0})
	if e := w.Align(); e != api.OK {
		t.Error(e)
	}
	if e := w.Add(new(msb.Writer)); e != api.OK {
		t.Error(e)
	}
	if e := w.Add(&w); e != api.OK {
		t.Error(e)
	}
	wantRow(t, &w, 0)
}

// P2.1: bits lie from the highest one on, over the bytes' ends, as few bytes as can be.
func TestPutEachBit(t *testing.T) {
	for n := 1; n <= 32; n++ {
		for ahead := 0; ahead < 9; ahead++ {
			for i := 0; i < n; i++ {
				w := row(t, number{greatest(ahead), ahead}, number{1 << i, n})
				m := model{}
				m.put(greatest(ahead), ahead)
				m.put(1<<i, n)
				wantRow(t, w, ahead+n, m.bytes()...)
			}
		}
	}
}

// P2.1: Align within a byte, and at a byte's end.
func TestWriterAlign(t *testing.T) {
	for n := 0; n <= 32; n++ {
		w := row(t, number{greatest(n), n})
		before := w.Bytes()
		for range 2 {
			if e := w.Align(); e != api.OK {
				t.Error(e)
			}
			wantRow(t, w, (n+7)/8*8, before...)
		}
		put(t, w, number{0x14b, 9})
		wantRow(t, w, (n+7)/8*8+9, append(before, 0xa5, 0x80)...)
	}
}

// P2.1: Add at each place of a byte, of each count of bits; the row added stays.
func TestAdd(t *testing.T) {
	for n := 0; n <= 17; n++ {
		for k := 0; k <= 17; k++ {
			a, b := uint32(0x2ca53)&greatest(n), uint32(0x19d7b)&greatest(k)
			w, x := row(t, number{a, n}), row(t, number{b, k})
			whole, m := x.Bytes(), model{}
			m.put(a, n)
			m.put(b, k)
			if e := w.Add(x); e != api.OK {
				t.Error(e)
			}
			wantRow(t, w, n+k, m.bytes()...)
			wantRow(t, x, k, whole...)
			put(t, x, number{greatest(9), 9})
			wantRow(t, w, n+k, m.bytes()...)
			put(t, w, number{1, 1})
			m.put(1, 1)
			wantRow(t, w, n+k+1, m.bytes()...)
		}
	}
}

// P2.1: Add of a row to itself lays its bits as they were ahead of it.
func TestAddItself(t *testing.T) {
	for n := 0; n <= 32; n++ {
		v := uint32(0xd3a5c697) & greatest(n)
		w, m := row(t, number{v, n}), model{}
		m.put(v, n)
		for range 4 {
			if e := w.Add(w); e != api.OK {
				t.Error(e)
			}
			m = append(m, m...)
			wantRow(t, w, len(m), m.bytes()...)
		}
	}
}

// P2.1, R1: calls on nil, ErrNil ahead of ErrArg.
func TestNilWriter(t *testing.T) {
	var none *msb.Writer
	for _, x := range []number{{0, 0}, {1, 1}, {2, 1}, {0, 33}, {0, -1}} {
		if e := none.Put(x.v, x.n); e != api.ErrNil {
			t.Errorf("Put(%d, %d) of nil = %v", x.v, x.n, e)
		}
	}
	if e := none.Align(); e != api.ErrNil {
		t.Errorf("Align of nil = %v", e)
	}
	w := row(t, number{5, 3})
	if e := w.Add(nil); e != api.ErrNil {
		t.Errorf("Add(nil) = %v", e)
	}
	if e := none.Add(w); e != api.ErrNil {
		t.Errorf("Add to nil = %v", e)
	}
	if e := none.Add(nil); e != api.ErrNil {
		t.Errorf("Add(nil) to nil = %v", e)
	}
	wantRow(t, w, 3, 0xa0)
	wantRow(t, none, 0)
}

// P2.2: the chapter's example; nothing is read beside an error.
func TestGetExamples(t *testing.T) {
	r := msb.New([]byte{0x96, 0x00})
	wantPlace(t, r, 0, 16)
	wantGet(t, r, 9, 300, api.OK)
	wantPlace(t, r, 9, 7)
	wantGet(t, r, 8, 0, api.ErrForm)
	wantPlace(t, r, 9, 7)
	wantGet(t, r, -1, 0, api.ErrArg)
	wantPlace(t, r, 9, 7)
	wantGet(t, r, 7, 0, api.OK)
	wantPlace(t, r, 16, 0)
}

// P2.2: fewer bits left than are asked for, at each place.
func TestGetMissing(t *testing.T) {
	b := []byte{0xff, 0xff, 0xff, 0xff, 0xff}
	for size := 0; size <= len(b); size++ {
		for at := 0; at <= size*8; at++ {
			r := msb.New(b[:size])
			for range at {
				wantGet(t, r, 1, 1, api.OK)
			}
			left := size*8 - at
			for n := left + 1; n <= 32; n++ {
				wantGet(t, r, n, 0, api.ErrForm)
				wantPlace(t, r, at, left)
			}
			last := min(left, 32)
			wantGet(t, r, last, greatest(last), api.OK)
			wantPlace(t, r, at+last, left-last)
		}
	}
}

// P2.2: an n that may not be is ErrArg, ahead of ErrForm; n of 0 is read at the end, too.
func TestGetWrongCount(t *testing.T) {
	for _, b := range [][]byte{nil, {}, {0xff}, bytes.Repeat([]byte{0xff}, 20)} {
		r := msb.New(b)
		for _, n := range []int{-1, 33, 34, 64, -32, -64, 1 << 32, math.MaxInt, math.MinInt} {
			wantGet(t, r, n, 0, api.ErrArg)
			wantPlace(t, r, 0, 8*len(b))
		}
		wantGet(t, r, 0, 0, api.OK)
		wantPlace(t, r, 0, 8*len(b))
	}
}

// P2.2: each count of bits at each place of a byte.
func TestGetEachPlace(t *testing.T) {
	b := []byte{0x5a, 0x93, 0xc7, 0x2d, 0xe1, 0x84}
	for at := 0; at <= 8; at++ {
		for n := 0; n <= 32; n++ {
			r := msb.New(b)
			r.Get(at)
			want := uint32(0)
			for i := at; i < at+n; i++ {
				want *= 2
				if b[i/8]&(128>>(i%8)) != 0 {
					want++
				}
			}
			wantGet(t, r, n, want, api.OK)
			wantPlace(t, r, at+n, 48-at-n)
		}
	}
}

// P2.2: Align passes by bits, whatever they are, and none at a byte's end.
func TestReaderAlign(t *testing.T) {
	for at := 0; at <= 16; at++ {
		r := msb.New([]byte{0xff, 0x3a})
		r.Get(at)
		end := (at + 7) / 8 * 8
		for range 2 {
			r.Align()
			wantPlace(t, r, end, 16-end)
		}
		if end == 8 {
			wantGet(t, r, 8, 0x3a, api.OK)
		}
	}
	r := msb.New(nil)
	r.Align()
	wantPlace(t, r, 0, 0)
}

// P2.2, R1: calls on nil, ErrNil ahead of ErrArg and ErrForm; New of nil is no nil.
func TestNilReader(t *testing.T) {
	var none *msb.Reader
	for _, n := range []int{0, 1, 32, -1, 33} {
		wantGet(t, none, n, 0, api.ErrNil)
	}
	none.Align()
	wantPlace(t, none, 0, 0)
	r := msb.New(nil)
	if r == nil {
		t.Fatal("New(nil) is nil")
	}
	wantGet(t, r, 1, 0, api.ErrForm)
}

// step is something that is laid and read again: a number, or, if n is below 0, an Align.
type step = number

// laid lays the steps, and holds the row against the model.
func laid(t *testing.T, l []step) []byte {
	t.Helper()
	w, m := new(msb.Writer), model{}
	for _, x := range l {
		if x.n < 0 {
			w.Align()
			m.align()
			continue
		}
		put(t, w, x)
		m.put(x.v, x.n)
	}
	wantRow(t, w, len(m), m.bytes()...)
	return w.Bytes()
}

// P2.3: what is laid is read, with the same n, aligned at the same places.
func TestLaidIsRead(t *testing.T) {
	seed := rough(1)
	for range 300 {
		var l []step
		for range seed.next(60) {
			if seed.next(6) == 0 {
				l = append(l, step{0, -1})
				continue
			}
			l = append(l, seed.number())
		}
		b := laid(t, l)
		r := msb.New(b)
		at := 0
		for _, x := range l {
			if x.n < 0 {
				r.Align()
				at = (at + 7) / 8 * 8
			} else {
				wantGet(t, r, x.n, x.v, api.OK)
				at += x.n
			}
			wantPlace(t, r, at, 8*len(b)-at)
		}
		wantGet(t, r, r.Left(), 0, api.OK)
	}
}

// P2.3: a number is its higher k bits, and behind them the others: as they are laid, and as they are read.
func TestNumberIsItsParts(t *testing.T) {
	for n := 0; n <= 32; n++ {
		v := uint32(0xb5e3967d) & greatest(n)
		for k := 0; k <= n; k++ {
			high, low := number{uint32(uint64(v) >> (n - k)), k}, number{v & greatest(n-k), n - k}
			for ahead := 0; ahead < 8; ahead++ {
				first := number{0x55 & greatest(ahead), ahead}
				whole := row(t, first, number{v, n})
				wantRow(t, row(t, first, high, low), ahead+n, whole.Bytes()...)
				r := msb.New(whole.Bytes())
				wantGet(t, r, ahead, first.v, api.OK)
				wantGet(t, r, high.n, high.v, api.OK)
				wantGet(t, r, low.n, low.v, api.OK)
			}
		}
	}
}

// P2.3: rows that are added are read as the numbers of the one, and behind them those of the other.
func TestAddedIsRead(t *testing.T) {
	seed := rough(2)
	for range 200 {
		var l []step
		w := new(msb.Writer)
		for range seed.next(6) {
			x := new(msb.Writer)
			for range seed.next(8) {
				l = append(l, seed.number())
				put(t, x, l[len(l)-1])
			}
			if e := w.Add(x); e != api.OK {
				t.Fatal(e)
			}
		}
		if b := laid(t, l); !bytes.Equal(b, w.Bytes()) {
			t.Fatalf("added: %x, laid: %x", w.Bytes(), b)
		}
	}
}

// R3: bytes handed in are neither changed, with the room behind their end, nor kept.
func TestBytesIn(t *testing.T) {
	room := []byte{0x96, 0x00, 0xee, 0xee}
	r := msb.New(room[:2])
	wantGet(t, r, 4, 9, api.OK)
	r.Align()
	wantGet(t, r, 8, 0, api.OK)
	wantGet(t, r, 1, 0, api.ErrForm)
	if !bytes.Equal(room, []byte{0x96, 0x00, 0xee, 0xee}) {
		t.Errorf("changed: %x", room)
	}
	r = msb.New(room[:2])
	clear(room)
	wantGet(t, r, 9, 300, api.OK)
}

// R3: bytes handed out are new memory.
func TestBytesOut(t *testing.T) {
	w := row(t, number{300, 9})
	out := w.Bytes()
	other := w.Bytes()
	clear(out[:cap(out)])
	wantRow(t, w, 9, 0x96, 0x00)
	if !bytes.Equal(other, []byte{0x96, 0x00}) {
		t.Errorf("an earlier answer became %x", other)
	}
	put(t, w, number{greatest(32), 32})
	if !bytes.Equal(other, []byte{0x96, 0x00}) {
		t.Errorf("an earlier answer became %x", other)
	}
}

// R2: writers and readers do not know of one another.
func TestObjectsStandAlone(t *testing.T) {
	b := []byte{0x96, 0x00}
	r, s := msb.New(b), msb.New(b)
	wantGet(t, r, 9, 300, api.OK)
	wantPlace(t, s, 0, 16)
	wantGet(t, s, 9, 300, api.OK)
	w, x := row(t, number{1, 1}), row(t, number{0, 1})
	put(t, w, number{3, 2})
	wantRow(t, x, 1, 0)
	wantRow(t, w, 3, 0xe0)
}
