package gunzip_test

import (
	"bytes"
	"compress/flate"
	"encoding/binary"
	"hash/crc32"
	"io"
	"math/rand/v2"
	"slices"
	"strings"

	"presswork/api"
)

// The flags of a head.
const (
	flagText    = 1
	flagSum     = 2
	flagExtra   = 4
	flagName    = 8
	flagComment = 16
)

// The kinds of blocks.
const (
	stored = iota
	fixed
	dynamic
	kinds
)

func source(seed uint64) *rand.Rand { return rand.New(rand.NewPCG(12, seed)) }

// member is a member's parts, what its stream says, and whether its head's sum is another one.
type member struct {
	head, stream, tail []byte
	said               []byte
	otherSum           bool
}

func (m member) bytes() []byte { return slices.Concat(m.head, m.stream, m.tail) }

// fileOf is the members' bytes, one behind the other.
func fileOf(l ...member) []byte {
	var g []byte
	for _, m := range l {
		g = append(g, m.bytes()...)
	}
	return g
}

// isKept tells whether all of a member's bytes are among the first keep ones, when the first of them stands at that place.
func (m member) isKept(place, keep int) bool {
	for i := range m.said {
		if place+i >= keep {
			return false
		}
	}
	return true
}

// flowOf is what the chapter's words say of a file of these members.
func flowOf(l []member, keep int) api.Flow {
	f := api.Flow{}
	var said []byte
	for _, m := range l {
		if m.otherSum || m.isKept(len(said), keep) && !bytes.Equal(m.tail, tailOf(m.said)) {
			f.Wrong = true
		}
		said = append(said, m.said...)
		f.Used += len(m.bytes())
	}
	f.Size = len(said)
	f.Bytes = said[:min(keep, len(said))]
	return f
}

// tailOf is the tail of a member that says these bytes.
func tailOf(said []byte) []byte {
	tail := binary.LittleEndian.AppendUint32(nil, crc32.ChecksumIEEE(said))
	return binary.LittleEndian.AppendUint32(tail, uint32(len(said)))
}

// headOf is a head of these flags, whose fields have these bytes.
func headOf(flags byte, extra, name, comment string) []byte {
	b := []byte{0x1f, 0x8b, 8, flags, 0x11, 0x22, 0x33, 0x44, 2, 3}
	if flags&flagExtra != 0 {
		b = binary.LittleEndian.AppendUint16(b, uint16(len(extra)))
		b = append(b, extra...)
	}
	if flags&flagName != 0 {
		b = append(b, name+"\x00"...)
	}
	if flags&flagComment != 0 {
		b = append(b, comment+"\x00"...)
	}
	if flags&flagSum != 0 {
		b = binary.LittleEndian.AppendUint16(b, uint16(crc32.ChecksumIEEE(b)))
	}
	return b
}

// plainHead is a head without fields.
func plainHead() []byte { return headOf(0, "", "", "") }

// memberOf is a member of that head, whose stream was put together.
func memberOf(head []byte, w *writer) member {
	return member{head: head, stream: w.bytes(), said: w.said, tail: tailOf(w.said)}
}

// stores is a member without fields, of one stored block.
func stores(text string) member {
	w := &writer{}
	w.block(true, stored, text, false)
	return memberOf(plainHead(), w)
}

// turned is the same member, that bit of its tail turned.
func (m member) turned(bit int) member {
	m.tail = slices.Clone(m.tail)
	m.tail[bit/8] ^= 1 << (bit % 8)
	return m
}

// misSummed is the same member, that bit of its head's sum turned.
func (m member) misSummed(bit int) member {
	m.head = slices.Clone(m.head)
	m.head[len(m.head)-2+bit/8] ^= 1 << (bit % 8)
	m.otherSum = true
	return m
}

// writer puts a stream together as a text of bits, with what it says beside it.
type writer struct {
	bits strings.Builder
	said []byte
}

// number lays a number of n bits, the lowest first.
func (w *writer) number(v, n int) {
	for i := range n {
		w.bits.WriteByte('0' + byte(v>>i&1))
	}
}

// word lays a code's word of n bits, the highest first.
func (w *writer) word(v, n int) {
	for i := range n {
		w.bits.WriteByte('0' + byte(v>>(n-1-i)&1))
	}
}

// fill lays the same bit up to a byte's end.
func (w *writer) fill(bit byte) {
	for w.bits.Len()%8 != 0 {
		w.bits.WriteByte(bit)
	}
}

// bytes is the stream's bytes, with bits 0 behind its end.
func (w *writer) bytes() []byte {
	b := make([]byte, (w.bits.Len()+7)/8)
	for i, bit := range w.bits.String() {
		b[i/8] |= byte(bit-'0') << (i % 8)
	}
	return b
}

// block lays a block of that kind, which says the text, and, if it is not stored, perhaps its last byte thrice more, as a repetition.
func (w *writer) block(last bool, kind int, text string, thrice bool) {
	w.number(map[bool]int{false: 0, true: 1}[last], 1)
	w.number(kind, 2)
	switch kind {
	case stored:
		w.fill('1')
		w.number(len(text), 16)
		w.number(65535-len(text), 16)
		for _, b := range []byte(text) {
			w.number(int(b), 8)
		}
	case fixed:
		w.fixed(text, thrice)
	case dynamic:
		w.dynamic(text, thrice)
	}
	w.said = append(w.said, text...)
	if thrice && kind != stored && len(w.said) > 0 {
		w.said = append(w.said, slices.Repeat(w.said[len(w.said)-1:], 3)...)
	}
}

// fixed lays symbols by the fixed codes.
func (w *writer) fixed(text string, thrice bool) {
	for _, b := range []byte(text) {
		if b < 144 {
			w.word(48+int(b), 8)
		} else {
			w.word(400+int(b)-144, 9)
		}
	}
	if thrice {
		w.word(1, 7) // 3 bytes
		w.word(0, 5) // from 1 ahead
	}
	w.word(0, 7)
}

// dynamic lays a head, and symbols by its codes: of the first one the symbols 0 to 253 have 8 bits, 254 to 257 have 9; of the other one the symbol 0 has 1.
func (w *writer) dynamic(text string, thrice bool) {
	w.number(1, 5)  // 258 first ones
	w.number(0, 5)  // 1 other one
	w.number(14, 4) // lengths of 18 signs, of which three have words: 8, 9 and 1
	for _, code := range []int{16, 17, 18, 0, 8, 7, 9, 6, 10, 5, 11, 4, 12, 3, 13, 2, 14, 1} {
		w.number(map[int]int{8: 1, 9: 2, 1: 2}[code], 3)
	}
	for range 254 {
		w.bits.WriteString("0")
	}
	w.bits.WriteString("11" + "11" + "11" + "11" + "10")
	symbol := func(v int) {
		if v < 254 {
			w.word(v, 8)
		} else {
			w.word(508+v-254, 9)
		}
	}
	for _, b := range []byte(text) {
		symbol(int(b))
	}
	if thrice {
		symbol(257)
		w.word(0, 1)
	}
	symbol(256)
}

// pressed is the library's stream of these bytes.
func pressed(said []byte, level int) []byte {
	var b bytes.Buffer
	z, err := flate.NewWriter(&b, level)
	if err != nil {
		panic(err)
	}
	z.Write(said)
	z.Close()
	return b.Bytes()
}

// defined is what the chapter's words say of bytes: the members of the file that they are, if they are one.
func defined(g []byte) ([]member, bool) {
	var l []member
	for len(g) > 0 {
		m, ok := definedMember(g)
		if !ok {
			return nil, false
		}
		l = append(l, m)
		g = g[len(m.bytes()):]
	}
	return l, len(l) > 0
}

// definedMember is the member with which bytes begin, if there is one.
func definedMember(b []byte) (m member, ok bool) {
	if m.head, m.otherSum, ok = definedHead(b); !ok {
		return member{}, false
	}
	b = b[len(m.head):]
	if m.said, m.stream, ok = definedStream(b); !ok {
		return member{}, false
	}
	b = b[len(m.stream):]
	if len(b) < 8 {
		return member{}, false
	}
	m.tail = b[:8]
	return m, true
}

// definedHead is the bytes of the head with which bytes begin, and whether its sum is another one, if there is a head.
func definedHead(b []byte) (head []byte, otherSum, ok bool) {
	if len(b) < 10 || b[0] != 0x1f || b[1] != 0x8b || b[2] != 8 || b[3] >= 32 {
		return nil, false, false
	}
	flags, left := b[3], b[10:]
	if flags&flagExtra != 0 {
		if len(left) < 2 || len(left)-2 < int(left[0])+256*int(left[1]) {
			return nil, false, false
		}
		left = left[2+int(left[0])+256*int(left[1]):]
	}
	for _, flag := range []byte{flagName, flagComment} {
		if flags&flag != 0 {
			if _, left, ok = bytes.Cut(left, []byte{0}); !ok {
				return nil, false, false
			}
		}
	}
	if flags&flagSum != 0 {
		if len(left) < 2 {
			return nil, false, false
		}
		sum := crc32.ChecksumIEEE(b[:len(b)-len(left)])
		otherSum = left[0] != byte(sum) || left[1] != byte(sum>>8)
		left = left[2:]
	}
	return b[:len(b)-len(left)], otherSum, true
}

// definedStream is what a stream says with which bytes begin, and its bytes, if there is a stream. It is the library that reads it: layer 10's own tests hold it against that chapter's words.
func definedStream(b []byte) (said, stream []byte, ok bool) {
	r := bytes.NewReader(b)
	said, err := io.ReadAll(flate.NewReader(r))
	if err != nil {
		return nil, nil, false
	}
	return said, b[:len(b)-r.Len()], true
}

// roughBytes is n bytes, of few kinds or of many.
func roughBytes(r *rand.Rand, n int) []byte {
	b := make([]byte, n)
	most := []int{1, 2, 256}[r.IntN(3)]
	for i := range b {
		b[i] = byte(r.IntN(most))
	}
	return b
}

// roughText is up to most bytes, none of which is 0.
func roughText(r *rand.Rand, most int) string {
	b := make([]byte, r.IntN(most+1))
	for i := range b {
		b[i] = byte(1 + r.IntN(255))
	}
	return string(b)
}

// roughStream is rough bytes that are a stream: they are drawn until a stream begins with them.
func roughStream(r *rand.Rand) []byte {
	for {
		b := make([]byte, 60)
		for i := range b {
			b[i] = byte(r.IntN(256))
		}
		if _, stream, ok := definedStream(b); ok {
			return stream
		}
	}
}

func roughHead(r *rand.Rand) []byte {
	return headOf(byte(r.IntN(32)), string(roughBytes(r, r.IntN(20))), roughText(r, 9), roughText(r, 9))
}

// roughMember is a member that says up to most bytes in each of its blocks, or in all.
func roughMember(r *rand.Rand, most int) member {
	head := roughHead(r)
	if r.IntN(3) == 0 {
		said := roughBytes(r, r.IntN(most+1))
		return member{head: head, stream: pressed(said, r.IntN(12)-2), said: said, tail: tailOf(said)}
	}
	w := &writer{}
	for range r.IntN(3) {
		w.roughBlock(r, false, most)
	}
	w.roughBlock(r, true, most)
	w.fill('0' + byte(r.IntN(2)))
	return memberOf(head, w)
}

func (w *writer) roughBlock(r *rand.Rand, last bool, most int) {
	text := string(roughBytes(r, r.IntN(most+1)))
	w.block(last, r.IntN(kinds), text, len(w.said)+len(text) > 0 && r.IntN(2) == 0)
}

func roughMembers(r *rand.Rand, n, most int) []member {
	l := make([]member, n)
	for i := range l {
		l[i] = roughMember(r, most)
	}
	return l
}
