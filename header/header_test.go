package header_test

import (
	"bytes"
	"compress/flate"
	"io"
	"math/rand/v2"
	"slices"
	"strconv"
	"strings"
	"sync"
	"testing"

	"presswork/api"
	"presswork/header"
	"presswork/lsb"
	"presswork/repeat"
)

// row is lengths.
type row = []uint8

// sign is a Code, and its Extra.
type sign struct{ code, extra int }

// inHead is the order in which a head tells the lengths of the Codes' words, as the chapter lists it.
var inHead = []int{16, 17, 18, 0, 8, 7, 9, 6, 10, 5, 11, 4, 12, 3, 13, 2, 14, 1, 15}

func source(seed uint64) *rand.Rand { return rand.New(rand.NewPCG(9, seed)) }

func like(length uint8, n int) row { return bytes.Repeat(row{length}, n) }

func and(parts ...row) row { return slices.Concat(parts...) }

// oneOf is n lengths 0, but that of one symbol.
func oneOf(n, symbol int, length uint8) row {
	lens := make(row, n)
	lens[symbol] = length
	return lens
}

// padded is these lengths, and lengths 0 behind them, n in all.
func padded(lens row, n int) row { return and(lens, make(row, n-len(lens))) }

// fullOf is a full code of n lengths, one of each word, of just so many bits or one less, the shorter ones ahead.
func fullOf(n int) row {
	long := uint8(0)
	for 1<<long < n {
		long++
	}
	short := 1<<long - n
	return and(like(long-1, short), like(long, n-short))
}

// chain is a full code of words of 1, 2, 3 .. n and n bits.
func chain(n uint8) row {
	var lens row
	for i := uint8(1); i <= n; i++ {
		lens = append(lens, i)
	}
	return append(lens, n)
}

// short is a row as a failure tells it.
func short[T any](l []T) []T { return l[:min(len(l), 350)] }

// binary is v as a text of n bits, the lowest first: how a number is laid.
func binary(v, n int) string {
	var s strings.Builder
	for i := range n {
		s.WriteByte('0' + byte(v>>i&1))
	}
	return s.String()
}

// packed is a text of bits as bytes, the lowest bit of each first, with bits 0 behind.
func packed(bits string) []byte {
	b := make([]byte, (len(bits)+7)/8)
	for i := range bits {
		b[i/8] |= (bits[i] - '0') << (i % 8)
	}
	return b
}

// unpacked is bytes as a text of bits.
func unpacked(b []byte) string {
	var s strings.Builder
	for _, v := range b {
		s.WriteString(binary(int(v), 8))
	}
	return s.String()
}

// wordsOf is each symbol's word as a text of bits, the first one first: counted as the chapter of codes says it, in a plain way.
func wordsOf(lens row) []string {
	words := make([]string, len(lens))
	next := 0
	for n := 1; n <= 20; n++ {
		for symbol, own := range lens {
			if int(own) == n {
				text := strconv.FormatInt(int64(next), 2)
				words[symbol] = strings.Repeat("0", max(0, n-len(text))) + text
				next++
			}
		}
		next *= 2
	}
	return words
}

// weight is how many words of 20 bits these words are as much as.
func weight(lens row) int {
	sum := 0
	for _, n := range lens {
		if n > 0 {
			sum += 1 << 20 >> n
		}
	}
	return sum
}

func isFull(lens row) bool { return weight(lens) == 1<<20 }

func isSingle(lens row) bool {
	return bytes.Count(lens, row{0}) == len(lens)-1 && bytes.Count(lens, row{1}) == 1
}

// may tells whether lengths may be, by the chapter's words.
func may(first, other row) bool {
	if len(first) < 257 || len(first) > 286 || len(other) < 1 || len(other) > 30 || slices.Max(and(first, other)) > 15 {
		return false
	}
	return first[256] != 0 && (isFull(first) || isSingle(first)) && (isFull(other) || isSingle(other) || weight(other) == 0)
}

// extraBits is how many bits a Code's Extra has.
func extraBits(code int) int {
	switch code {
	case 16:
		return 2
	case 17:
		return 3
	case 18:
		return 7
	}
	return 0
}

// leastTimes is how many lengths a Code says at least.
func leastTimes(code int) int {
	switch code {
	case 16, 17:
		return 3
	case 18:
		return 11
	}
	return 1
}

// head is a head as a test puts it together.
type head struct {
	n, m  int // how many first ones, and others, it tells of
	lens  row // of the words of the Codes 0 to 18
	more  int // how many lengths of words it tells behind the last one that is not 0, if there are so many
	signs []sign
}

// bits is the head as a text of bits; a word that there is not is no bits.
func (h head) bits() string {
	told := 4
	for i, code := range inHead {
		if h.lens[code] != 0 {
			told = max(told, i+1)
		}
	}
	told = min(told+h.more, 19)
	var s strings.Builder
	s.WriteString(binary(h.n-257, 5) + binary(h.m-1, 5) + binary(told-4, 4))
	for _, code := range inHead[:told] {
		s.WriteString(binary(int(h.lens[code]), 3))
	}
	words := wordsOf(h.lens)
	for _, x := range h.signs {
		s.WriteString(words[x.code] + binary(x.extra, extraBits(x.code)))
	}
	return s.String()
}

// flat is a full code of all Codes.
func flat() row { return fullOf(19) }

// literal is the signs of lengths, each by itself.
func literal(lens ...row) []sign {
	var l []sign
	for _, n := range and(lens...) {
		l = append(l, sign{code: int(n)})
	}
	return l
}

// plain is a head of these lengths, each of which is said by itself.
func plain(first, other row) head {
	return head{n: len(first), m: len(other), lens: flat(), signs: literal(first, other)}
}

// bitsLeft is a text of bits that is read.
type bitsLeft struct {
	text string
	at   int
}

func (b *bitsLeft) number(n int) (int, bool) {
	if b.at+n > len(b.text) {
		return 0, false
	}
	v := 0
	for i := range n {
		v += int(b.text[b.at+i]-'0') << i
	}
	b.at += n
	return v, true
}

// word reads the word that the bits go on with, and answers its symbol.
func (b *bitsLeft) word(words []string) (int, bool) {
	for symbol, w := range words {
		if w != "" && strings.HasPrefix(b.text[b.at:], w) {
			b.at += len(w)
			return symbol, true
		}
	}
	return 0, false
}

// readWords reads the words of signs, if they are full.
func (b *bitsLeft) readWords() ([]string, bool) {
	n, ok := b.number(4)
	lens := make(row, 19)
	for i := range n + 4 {
		v, more := b.number(3)
		ok = ok && more
		lens[inHead[i]] = uint8(v)
	}
	return wordsOf(lens), ok && isFull(lens)
}

// definedGet is what the chapter's words say of bits: the lengths, and how many bits the head has, if there is one.
func definedGet(bits string) (first, other row, used int, ok bool) {
	b := &bitsLeft{text: bits}
	n, ok1 := b.number(5)
	m, ok2 := b.number(5)
	words, ok3 := b.readWords()
	if !ok1 || !ok2 || !ok3 {
		return nil, nil, 0, false
	}
	n, m = n+257, m+1
	var lens row
	for len(lens) < n+m {
		code, ok1 := b.word(words)
		extra, ok2 := b.number(extraBits(code))
		if !ok1 || !ok2 || code == 16 && len(lens) == 0 {
			return nil, nil, 0, false
		}
		length := uint8(code)
		switch code {
		case 16:
			length = lens[len(lens)-1]
		case 17, 18:
			length = 0
		}
		lens = append(lens, like(length, leastTimes(code)+extra)...)
	}
	if len(lens) > n+m || !may(lens[:n], lens[n:]) {
		return nil, nil, 0, false
	}
	return lens[:n], lens[n:], b.at, true
}

// readerAt is a reader of these bits, behind others that it read; bits 0 are behind them, up to a byte's end.
func readerAt(t *testing.T, ahead, bits string) *lsb.Reader {
	t.Helper()
	r := lsb.New(packed(ahead + bits))
	for range len(ahead) {
		if _, e := r.Get(1); e != api.OK {
			t.Fatal(e)
		}
	}
	return r
}

// wantGet asks for these lengths of a head of so many bits, and that the reader stands just behind it.
func wantGet(t *testing.T, r *lsb.Reader, first, other row, bits int) {
	t.Helper()
	at, left := r.At(), r.Left()
	a, b, e := header.Get(r)
	if e != api.OK || !slices.Equal(a, first) || !slices.Equal(b, other) {
		t.Fatalf("Get = %v, %v, %v, want %v, %v", a, b, e, first, other)
	}
	if r.At() != at+bits || r.Left() != left-bits {
		t.Fatalf("Get: at %d, %d left, became %d, %d, want %d bits read", at, left, r.At(), r.Left(), bits)
	}
}

// wantNoGet asks for ErrForm, for no lengths beside it, and that the reader stands where it stood, and reads on from there.
func wantNoGet(t *testing.T, r *lsb.Reader) {
	t.Helper()
	at, left := r.At(), r.Left()
	if first, other, e := header.Get(r); e != api.ErrForm || len(first) != 0 || len(other) != 0 {
		t.Fatalf("Get = %v, %v, %v, want none, %v", first, other, e, api.ErrForm)
	}
	if r.At() != at || r.Left() != left {
		t.Fatalf("Get: at %d, %d left, became %d, %d", at, left, r.At(), r.Left())
	}
}

// wantRead asks that the head is read, in whatever bits it stands.
func wantRead(t *testing.T, h head, first, other row) {
	t.Helper()
	bits := h.bits()
	for _, ahead := range []string{"", "1", "10110", "00000000"} {
		for _, behind := range []string{"", "1", "0000000", "11111111111111111"} {
			wantGet(t, readerAt(t, ahead, bits+behind), first, other, len(bits))
		}
	}
}

// wantNoHead asks that the bits are no head, wherever they stand, and whatever stands behind them.
func wantNoHead(t *testing.T, bits string) {
	t.Helper()
	for _, ahead := range []string{"", "011"} {
		for _, behind := range []string{"", strings.Repeat("0", 400), strings.Repeat("1", 400)} {
			wantNoGet(t, readerAt(t, ahead, bits+behind))
		}
	}
}

// laid is the bits that Put lays of these lengths, behind others.
func laid(t *testing.T, ahead string, first, other row) string {
	t.Helper()
	var w lsb.Writer
	for _, bit := range []byte(ahead) {
		w.Put(uint32(bit-'0'), 1)
	}
	if e := header.Put(&w, first, other); e != api.OK {
		t.Fatalf("Put(%v, %v) = %v", first, other, e)
	}
	bits := unpacked(w.Bytes())
	if len(bits)-w.Len() >= 8 || strings.Contains(bits[w.Len():], "1") || !strings.HasPrefix(bits, ahead) {
		t.Fatalf("Put behind %s: %s, of which %d are bits", ahead, bits, w.Len())
	}
	return bits[len(ahead):w.Len()]
}

// wantHead asks that lengths that may be are put, got again, and read by a plain reader; that Size tells how many bits that is; and that it is not more than may be.
func wantHead(t *testing.T, first, other row) {
	t.Helper()
	bits := laid(t, "", first, other)
	a, b, used, ok := definedGet(bits)
	if !ok || used != len(bits) || !slices.Equal(a, first) || !slices.Equal(b, other) {
		t.Fatalf("Put(%v, %v) = %s: read as %v, %v, %d of %d bits, %v", first, other, bits, a, b, used, len(bits), ok)
	}
	if n, e := header.Size(first, other); n != len(bits) || e != api.OK {
		t.Fatalf("Size(%v, %v) = %d, %v, want %d", first, other, n, e, len(bits))
	}
	if most := 14 + 19*3 + 15*(len(first)+len(other)); len(bits) > most {
		t.Fatalf("Put(%v, %v): %d bits, more than %d", first, other, len(bits), most)
	}
	for _, ahead := range []string{"1", "0101101"} {
		if again := laid(t, ahead, first, other); again != bits {
			t.Fatalf("Put(%v, %v): %s, behind %s %s", first, other, bits, ahead, again)
		}
	}
	for _, behind := range []string{"", "1", strings.Repeat("10", 20)} {
		wantGet(t, readerAt(t, "110", bits+behind), first, other, len(bits))
	}
}

// wantNotPut asks that lengths may not be: ErrArg of Put and Size, and nothing laid.
func wantNotPut(t *testing.T, first, other row) {
	t.Helper()
	var w lsb.Writer
	w.Put(0x155, 9)
	if e := header.Put(&w, first, other); e != api.ErrArg {
		t.Fatalf("Put(%d: %v, %d: %v) = %v, want %v", len(first), short(first), len(other), short(other), e, api.ErrArg)
	}
	if w.Len() != 9 || !bytes.Equal(w.Bytes(), []byte{0x55, 1}) {
		t.Fatalf("Put(%v, %v) laid: %x", short(first), short(other), w.Bytes())
	}
	if n, e := header.Size(first, other); n != 0 || e != api.ErrArg {
		t.Fatalf("Size(%v, %v) = %d, %v, want 0, %v", short(first), short(other), n, e, api.ErrArg)
	}
}

// wantMay asks of lengths, whether they are put and read, what the chapter's words say of them.
func wantMay(t *testing.T, first, other row, want bool) {
	t.Helper()
	if want {
		wantHead(t, first, other)
	} else {
		wantNotPut(t, first, other)
	}
	if len(first) < 257 || len(first) > 288 || len(other) < 1 || len(other) > 32 || slices.Max(and(first, other)) > 15 {
		return // such lengths can't be told by a head
	}
	h := plain(first, other)
	if want {
		wantRead(t, h, first, other)
	} else {
		wantNoHead(t, h.bits())
	}
}

// someFirst is one of the rows of first lengths that may be: of as many words as there are lengths.
func someFirst() row { return fullOf(270) }

// shuffled is the lengths in another order, but that of the symbol 256 is not 0, if there is one such.
func shuffled(r *rand.Rand, lens row) row {
	lens = slices.Clone(lens)
	r.Shuffle(len(lens), func(i, j int) { lens[i], lens[j] = lens[j], lens[i] })
	if len(lens) > 256 && lens[256] == 0 {
		i := slices.IndexFunc(lens, func(n uint8) bool { return n != 0 })
		lens[i], lens[256] = lens[256], lens[i]
	}
	return lens
}

// roughCode is a full code of that many words, none longer than most: words are parted in two, again and again.
func roughCode(r *rand.Rand, words int, most uint8) row {
	lens := row{0}
	skew := r.IntN(3)
	for len(lens) < words {
		i := r.IntN(len(lens))
		if skew > 0 && r.IntN(3) < skew {
			i = len(lens) - 1 // the longest words are parted more often
		}
		if lens[i] == most {
			i = slices.Index(lens, slices.Min(lens))
		}
		lens[i]++
		lens = append(lens, lens[i])
	}
	return lens
}

// roughFirst is first lengths that may be.
func roughFirst(r *rand.Rand) row {
	n := 257 + r.IntN(30)
	if r.IntN(12) == 0 {
		return oneOf(n, 256, 1)
	}
	words := 2 + r.IntN([]int{5, 40, n - 1, n - 1}[r.IntN(4)])
	lens := padded(roughCode(r, words, 15), n)
	if r.IntN(3) == 0 {
		slices.Sort(lens)
		lens[0], lens[256] = lens[256], lens[0]
	} else {
		lens = shuffled(r, lens)
	}
	if lens[256] == 0 {
		lens = shuffled(r, lens)
	}
	return lens
}

// roughOther is other lengths that may be.
func roughOther(r *rand.Rand) row {
	n := 1 + r.IntN(30)
	switch r.IntN(6) {
	case 0:
		return make(row, n)
	case 1:
		return oneOf(n, r.IntN(n), 1)
	}
	if n == 1 {
		return row{1}
	}
	return shuffled(r, padded(roughCode(r, 2+r.IntN(n-1), 15), n))
}

// roughSigns is signs that say these lengths: any of those that may stand, not only the longest.
func roughSigns(r *rand.Rand, lens row) []sign {
	var l []sign
	for i := 0; i < len(lens); {
		run := 1
		for i+run < len(lens) && lens[i+run] == lens[i] {
			run++
		}
		kinds := []sign{{code: int(lens[i])}}
		for code := 16; code <= 18; code++ {
			again := code == 16 && i > 0 && lens[i-1] == lens[i]
			if run >= leastTimes(code) && (again || code > 16 && lens[i] == 0) {
				extra := r.IntN(min(run-leastTimes(code)+1, 1<<extraBits(code)))
				if r.IntN(2) == 0 {
					extra = min(run-leastTimes(code)+1, 1<<extraBits(code)) - 1
				}
				kinds = append(kinds, sign{code, extra})
			}
		}
		s := kinds[r.IntN(len(kinds))]
		l = append(l, s)
		i += 1
		if s.code >= 16 {
			i += leastTimes(s.code) + s.extra - 1
		}
	}
	return l
}

// roughWords is a full code of signs that has a word for each of these, and for others, too.
func roughWords(r *rand.Rand, signs []sign) row {
	used := make([]bool, 19)
	words := 0
	for _, s := range signs {
		used[s.code] = true
	}
	for i := range used {
		used[i] = used[i] || r.IntN(4) == 0
	}
	used[r.IntN(19)] = true // there are two at least
	for _, u := range used {
		if u {
			words++
		}
	}
	if words == 1 {
		i := slices.Index(used, true)
		used[(i+1)%19] = true
		words++
	}
	code := shuffled(r, roughCode(r, words, 7))
	lens := make(row, 19)
	for i, u := range used {
		if u {
			lens[i] = code[0]
			code = code[1:]
		}
	}
	return lens
}

// roughHead is a head of lengths, put together in one of many ways.
func roughHead(r *rand.Rand, first, other row) head {
	signs := roughSigns(r, and(first, other))
	return head{len(first), len(other), roughWords(r, signs), r.IntN(20), signs}
}

// P9.1, P9.2: the chapter's examples.
func TestExamples(t *testing.T) {
	first := oneOf(257, 256, 1)
	first[0] = 1
	wantHead(t, first, row{0})
	var w lsb.Writer
	if e := header.Put(&w, first, row{0}); e != api.OK {
		t.Fatal(e)
	}
	if a, b, e := header.Get(lsb.New(w.Bytes())); e != api.OK || !slices.Equal(a, first) || !slices.Equal(b, row{0}) {
		t.Errorf("%v, %v, %v", a, b, e)
	}
	wantNotPut(t, oneOf(256, 255, 1), row{1})
	wantNotPut(t, fullOf(256), row{1})
	wantNotPut(t, make(row, 257), row{1})
	wantNoGet(t, lsb.New(nil))
	for n := range 300 {
		wantNoGet(t, lsb.New(bytes.Repeat([]byte{0xff}, n)))
	}
}

// P9.2: a head that is written out bit by bit: 257 and 1 lengths, 18 lengths of words (1 of the Code 18, 2 of 0, 2 of 1), and the signs 1, 255 times 0, 1, 0.
func TestBitByBit(t *testing.T) {
	first := oneOf(257, 256, 1)
	first[0] = 1
	told := "000" + "000" + "100" + "010" + strings.Repeat("000", 13) + "010"
	signs := "11" + "0" + binary(127, 7) + "0" + binary(106, 7) + "11" + "10"
	bits := "00000" + "00000" + binary(14, 4) + told + signs
	wantGet(t, lsb.New(packed(bits)), first, row{0}, len(bits))
	wantGet(t, readerAt(t, "1011", bits+"1111"), first, row{0}, len(bits))
}

// P9.1, P9.2, P9.3: how many first ones there may be: 257 to 286.
func TestCountsOfFirst(t *testing.T) {
	for n := 2; n <= 300; n++ {
		few := n >= 257 && n <= 286
		wantMay(t, fullOf(n), row{0}, few)
		wantMay(t, oneOf(n, min(n-1, 256), 1), row{1, 1}, few)
		lens := padded(fullOf(min(n, 200)), n)
		if n > 256 {
			lens[0], lens[256] = lens[256], lens[0]
		}
		wantMay(t, lens, row{1}, few)
	}
	for _, first := range []row{nil, {}, {1}, {1, 1}, make(row, 1<<16), fullOf(512), fullOf(1 << 15), like(1, 1<<16)} {
		wantNotPut(t, first, row{1})
	}
}

// P9.1, P9.2, P9.3: how many others there may be: 1 to 30.
func TestCountsOfOthers(t *testing.T) {
	for n := 1; n <= 64; n++ {
		wantMay(t, someFirst(), make(row, n), n <= 30)
		wantMay(t, someFirst(), oneOf(n, n/2, 1), n <= 30)
		wantMay(t, someFirst(), oneOf(n, n-1, 1), n <= 30)
		if n > 1 {
			wantMay(t, someFirst(), fullOf(n), n <= 30)
			wantMay(t, someFirst(), padded(row{1, 1}, n), n <= 30)
		}
	}
	for _, other := range []row{nil, {}, make(row, 0, 8), make(row, 513), make(row, 1<<16), fullOf(512)} {
		wantNotPut(t, someFirst(), other)
	}
	wantNotPut(t, nil, nil)
	wantNotPut(t, row{}, row{})
	wantNotPut(t, row{1}, someFirst())
}

// P9.1, P9.2: a head that tells of more lengths than there may be, however they are said: the counts 287, 288, 31 and 32.
func TestCountsAbove(t *testing.T) {
	r := source(1)
	for _, n := range []int{257, 286, 287, 288} {
		for _, m := range []int{1, 30, 31, 32} {
			for _, first := range []row{fullOf(n), oneOf(n, 256, 1), padded(fullOf(257), n)} {
				for _, other := range []row{make(row, m), oneOf(m, 0, 1)} {
					fits := n <= 286 && m <= 30
					wantMay(t, first, other, fits)
					for range 5 {
						h := roughHead(r, first, other)
						if fits {
							wantRead(t, h, first, other)
						} else {
							wantNoHead(t, h.bits())
						}
					}
				}
			}
		}
	}
}

// P9.1, P9.2, P9.3: the symbol 256 must have a word.
func TestEnd(t *testing.T) {
	for n := 257; n <= 286; n++ {
		lens := padded(fullOf(200), n)
		wantMay(t, lens, row{1}, false)
		lens[256], lens[199] = lens[199], 0
		wantMay(t, lens, row{1}, true)
		for symbol := range n {
			if symbol%37 == 0 || symbol > 254 {
				wantMay(t, oneOf(n, symbol, 1), row{0}, symbol == 256)
			}
		}
	}
	wantMay(t, make(row, 257), row{1}, false)
	wantMay(t, make(row, 286), make(row, 30), false)
}

// classed is kinds of lengths, and what they are.
type classed struct {
	lens         row
	full, single bool
}

// classes are words of all kinds: full, single, under, over, of 15 and of more bits.
func classes() []classed {
	return []classed{
		{row{1, 1}, true, false},
		{row{1, 2, 2}, true, false},
		{row{3, 3, 3, 3, 3, 3, 3, 3}, true, false},
		{chain(7), true, false},
		{chain(14), true, false},
		{chain(15), true, false},
		{and(chain(15)[:14], row{15}), false, false},
		{and(chain(15)[:14], row{15, 15, 15}), false, false},
		{and(chain(15), row{1}), false, false},
		{chain(16), false, false},
		{chain(20), false, false},
		{row{1}, false, true},
		{row{2}, false, false},
		{row{15}, false, false},
		{row{16}, false, false},
		{row{21}, false, false},
		{row{255}, false, false},
		{row{1, 2}, false, false},
		{row{2, 2, 2}, false, false},
		{row{1, 1, 1}, false, false},
		{row{1, 1, 15}, false, false},
		{row{1, 1, 16}, false, false},
		{row{1, 1, 21}, false, false},
		{row{1, 1, 255}, false, false},
		{row{1, 15}, false, false},
		{like(1, 25), false, false},
		{like(15, 25), false, false},
		{like(2, 4), true, false},
		{like(2, 5), false, false},
	}
}

// P9.1, P9.2, P9.3: which codes may be, among the first ones and among the others.
func TestClasses(t *testing.T) {
	r := source(2)
	for _, c := range classes() {
		ok := c.full || c.single
		for range 4 {
			first := padded(shuffled(r, c.lens), 286)
			first[256], first[0] = first[0], first[256]
			wantMay(t, first, row{1}, ok)
			wantMay(t, first, make(row, 30), ok)
			other := shuffled(r, padded(c.lens, 30))
			wantMay(t, someFirst(), other, ok)
			wantMay(t, someFirst(), shuffled(r, c.lens), ok)
			wantMay(t, first, other, ok)
			wantMay(t, make(row, 286), other, false)
		}
	}
	for _, n := range []int{257, 258, 286} {
		wantMay(t, like(8, n), row{1}, false)                             // over by a little
		wantMay(t, and(like(8, 255), row{0, 9}), row{1}, false)           // under by a little
		wantMay(t, padded(and(like(8, 255), row{9, 9}), n), row{1}, true) // full
	}
}

// P9.1, P9.2, P9.3: a length of 15 may be, one of 16 may not, at any place, whatever it makes of the weight.
func TestLongest(t *testing.T) {
	long := padded(chain(15), 270)
	long[256], long[15] = long[15], 0
	wantMay(t, long, row{1}, true)
	wantMay(t, someFirst(), chain(15), true)
	wantMay(t, long, padded(chain(15), 30), true)
	for n := 16; n < 256; n++ {
		for _, at := range []int{0, 100, 256, 269} {
			first := someFirst()
			first[at] = uint8(n)
			wantNotPut(t, first, row{1})
			first = make(row, 270)
			first[256], first[at] = 1, uint8(n)
			wantNotPut(t, first, row{1})
		}
		wantNotPut(t, someFirst(), row{uint8(n)})
		wantNotPut(t, someFirst(), row{1, uint8(n)})
		wantNotPut(t, someFirst(), oneOf(30, 29, uint8(n)))
	}
	for n := uint8(16); n <= 20; n++ {
		first := padded(chain(n), 286)
		first[256], first[n] = first[n], 0
		wantNotPut(t, first, row{1}) // full, though
		wantNotPut(t, someFirst(), padded(chain(n), 30))
	}
}

// P9.1, P9.2, R5: ErrNil of what is nil, ahead of all else.
func TestNil(t *testing.T) {
	for _, first := range []row{nil, {1}, someFirst(), make(row, 257)} {
		for _, other := range []row{nil, {1}, {16}, {2}, make(row, 31)} {
			if e := header.Put(nil, first, other); e != api.ErrNil {
				t.Errorf("Put(nil, %v, %v) = %v", first, other, e)
			}
		}
	}
	if first, other, e := header.Get(nil); len(first) != 0 || len(other) != 0 || e != api.ErrNil {
		t.Errorf("Get(nil) = %v, %v, %v", first, other, e)
	}
	wantNoGet(t, new(lsb.Reader))
	wantNoGet(t, lsb.New([]byte{}))
}

// P9.1, P9.3, P9.4: many lengths that may be.
func TestManyLengths(t *testing.T) {
	r := source(3)
	for range 400 {
		first, other := roughFirst(r), roughOther(r)
		if !may(first, other) {
			t.Fatal(first, other)
		}
		wantHead(t, first, other)
	}
}

// P9.2, P9.4: many heads, put together sign by sign: any signs that say the lengths, any full code of signs, any lengths 0 told behind.
func TestManyHeads(t *testing.T) {
	r := source(4)
	for range 400 {
		first, other := roughFirst(r), roughOther(r)
		h := roughHead(r, first, other)
		wantRead(t, h, first, other)
		if a, b, used, ok := definedGet(h.bits()); !ok || used != len(h.bits()) || !slices.Equal(a, first) || !slices.Equal(b, other) {
			t.Fatalf("the test's own reader: %v, %v, %d, %v", a, b, used, ok)
		}
	}
}

// P9.2: heads with some bits turned, and with bits that are missing, by the chapter's words.
func TestTurnedHeads(t *testing.T) {
	r := source(5)
	for range 3000 {
		first, other := roughFirst(r), roughOther(r)
		bits := []byte(roughHead(r, first, other).bits() + strings.Repeat("01", r.IntN(30)))
		for range 1 + r.IntN(3) {
			within := len(bits)
			if r.IntN(2) == 0 {
				within = 71
			}
			bits[r.IntN(within)] ^= 1
		}
		wantDefined(t, string(bits))
	}
}

// wantDefined holds Get against the chapter's words, of bits with bits 0 behind, up to a byte's end.
func wantDefined(t *testing.T, bits string) {
	t.Helper()
	bits = unpacked(packed(bits))
	r := lsb.New(packed(bits))
	if first, other, used, ok := definedGet(bits); ok {
		wantGet(t, r, first, other, used)
	} else {
		wantNoGet(t, r)
	}
}

// P9.2, R1: rough bytes, which are hardly ever a head; those whose signs' code is full, too.
func TestRoughBytes(t *testing.T) {
	r := source(6)
	for range 3000 {
		var s strings.Builder
		for range r.IntN(3000) {
			s.WriteByte('0' + byte(r.IntN(2)))
		}
		wantDefined(t, s.String())
		h := head{257 + r.IntN(32), 1 + r.IntN(32), roughWords(r, nil), r.IntN(20), nil}
		wantDefined(t, h.bits()+s.String())
	}
}

// P9.2, R4: the last bits of a head are missing, wherever it is cut.
func TestCut(t *testing.T) {
	r := source(7)
	for range 12 {
		first, other := roughFirst(r), roughOther(r)
		for _, bits := range []string{laid(t, "", first, other), roughHead(r, first, other).bits()} {
			// Bits ahead, so that the cut is where the bytes end.
			for n := range len(bits) {
				ahead := strings.Repeat("1", -n&7)
				wantNoGet(t, readerAt(t, ahead, bits[:n]))
			}
			ahead := strings.Repeat("1", -len(bits)&7)
			wantGet(t, readerAt(t, ahead, bits), first, other, len(bits))
		}
	}
}

// P9.2, P9.4: a head behind other bits, with bits behind it, and a head behind a head.
func TestPlaces(t *testing.T) {
	r := source(8)
	for ahead := range 40 {
		for behind := range 18 {
			first, other := roughFirst(r), roughOther(r)
			bits := laid(t, strings.Repeat("10", 20)[:ahead], first, other)
			wantGet(t, readerAt(t, strings.Repeat("0", ahead), bits+strings.Repeat("1", behind)), first, other, len(bits))
		}
	}
	var w lsb.Writer
	var all [][2]row
	var ends []int
	for range 50 {
		first, other := roughFirst(r), roughOther(r)
		header.Put(&w, first, other)
		all, ends = append(all, [2]row{first, other}), append(ends, w.Len())
	}
	read := lsb.New(w.Bytes())
	for i, l := range all {
		wantGet(t, read, l[0], l[1], ends[i]-read.At())
	}
	wantNoGet(t, read)
}

// signCodes is lengths of the words of all Codes: of these, in order; the others have none.
func signCodes(lens map[int]uint8) row {
	l := make(row, 19)
	for code, n := range lens {
		l[code] = n
	}
	return l
}

// P9.2: the code of signs must be full: none, a single one, under and over are no heads, though all words that come could be read.
func TestWordsOfSigns(t *testing.T) {
	first, other := oneOf(257, 256, 1), row{0}
	signs := []sign{{18, 127}, {18, 107}, {code: 1}, {code: 0}}
	good := signCodes(map[int]uint8{18: 1, 1: 2, 0: 2})
	wantRead(t, head{257, 1, good, 0, signs}, first, other)
	for _, lens := range []map[int]uint8{
		{18: 1, 1: 2, 0: 3},
		{18: 2, 1: 2, 0: 2},
		{18: 1, 1: 3, 0: 3},
		{18: 7, 1: 7, 0: 7},
		{18: 1, 1: 2, 0: 2, 5: 7},
		{18: 1, 1: 1, 0: 1},
		{18: 1, 1: 1, 0: 7},
	} {
		wantNoHead(t, head{257, 1, signCodes(lens), 0, signs}.bits())
	}
	for _, more := range []int{0, 15} {
		wantNoHead(t, head{257, 1, make(row, 19), more, nil}.bits())
		for code := range 19 {
			for n := uint8(1); n <= 7; n++ {
				lens := make(row, 19)
				lens[code] = n
				wantNoHead(t, head{257, 1, lens, more, slices.Repeat([]sign{{code: code}}, 258)}.bits())
			}
		}
	}
	for n := uint8(1); n <= 7; n++ {
		wantNoHead(t, head{257, 1, like(n, 19), 0, signs}.bits())
	}
	for words := 2; words <= 19; words++ {
		full := fullOf(words)
		for i := range full {
			for _, n := range []int{-1, 1} {
				lens := padded(full, 19)
				lens[i] = uint8(int(lens[i]) + n)
				if lens[i] < 8 && !isFull(lens) {
					wantNoHead(t, head{257, 1, lens, 0, nil}.bits()+strings.Repeat("0110", 500))
				}
			}
		}
	}
}

// P9.2: bits that begin no sign's word can't be where the code is full; of a code that is under they are no head.
func TestNoWord(t *testing.T) {
	lens := signCodes(map[int]uint8{1: 1, 0: 2})
	begin := head{257, 1, lens, 0, nil}.bits()
	for _, signs := range []string{"11", "1011", "0" + strings.Repeat("10", 100) + "11", strings.Repeat("10", 256) + "0" + "10"} {
		wantNoHead(t, begin+signs)
	}
}

// P9.2: a 16 at the beginning, with each Extra, whatever follows, also where a length 0 ahead of it would make the lengths ones that may be.
func TestAgainAtBeginning(t *testing.T) {
	lens := signCodes(map[int]uint8{16: 2, 18: 2, 0: 2, 1: 2})
	for extra := range 4 {
		zeros := 256 - 3 - extra
		behind := []sign{{18, 127}, {18, zeros - 138 - 11}, {code: 1}, {code: 0}}
		wantRead(t, head{257, 1, lens, 0, append(slices.Repeat([]sign{{code: 0}}, 3+extra), behind...)}, oneOf(257, 256, 1), row{0})
		wantNoHead(t, head{257, 1, lens, 0, append([]sign{{16, extra}}, behind...)}.bits())
		wantNoHead(t, head{257, 1, lens, 0, slices.Repeat([]sign{{16, extra}}, 300)}.bits())
	}
}

// P9.2: signs that say just as many lengths as there are, and more: each Code, each Extra, at the end.
func TestTooManyLengths(t *testing.T) {
	lens := flat()
	for _, first := range []row{fullOf(257), oneOf(286, 256, 1)} {
		for code := 16; code <= 18; code++ {
			for extra := range 1 << extraBits(code) {
				times := leastTimes(code) + extra
				for left := 1; left <= min(times+1, 29); left++ {
					other := make(row, left+1)
					signs := append(literal(first, row{0}), sign{code, extra})
					h := head{len(first), left + 1, lens, 0, signs}
					switch {
					case left == times:
						wantRead(t, h, first, other)
					case left < times:
						wantNoHead(t, h.bits())
					default:
						wantGet(t, lsb.New(packed(h.bits()+wordsOf(lens)[0])), first, other, len(h.bits())+len(wordsOf(lens)[0]))
					}
				}
			}
		}
	}
}

// zeroSigns is signs of n lengths 0.
func zeroSigns(n int) []sign {
	var l []sign
	for ; n >= 11; n -= min(n, 138) {
		l = append(l, sign{18, min(n, 138) - 11})
	}
	return append(l, slices.Repeat([]sign{{}}, n)...)
}

// P9.2: a 16 that reaches from the first ones into the others, and one that stands where the others begin, and says the last first one again.
func TestAgainAcross(t *testing.T) {
	for n := uint8(1); n <= 4; n++ {
		for size := 257; size <= 257+int(n); size++ {
			first := and(make(row, size-len(chain(n))), chain(n))
			other := like(n, 1<<n)
			begin := append(zeroSigns(size-len(chain(n))), literal(chain(n)[:n])...) // all first ones but the last
			for extra := range 4 {
				if within := 2 + extra; within <= len(other) {
					signs := slices.Concat(begin, []sign{{16, extra}}, literal(other[within:]))
					wantRead(t, head{size, len(other), flat(), 0, signs}, first, other)
				}
				if within := 3 + extra; within <= len(other) {
					signs := slices.Concat(begin, literal(row{n}), []sign{{16, extra}}, literal(other[within:]))
					wantRead(t, head{size, len(other), flat(), 0, signs}, first, other)
				}
			}
		}
	}
}

// P9.2: lengths 0 that are said by one sign, of each Code, and belong to the first ones and to the others, cut at each place.
func TestZerosAcross(t *testing.T) {
	for n := 257; n <= 286; n++ {
		for m := 1; m <= 30; m++ {
			for code := 16; code <= 18; code++ {
				signs := append(zeroSigns(256), sign{code: 1})
				left := n - 257 + m
				if code == 16 {
					signs = append(signs, sign{code: 0})
					left--
				}
				extra := left - leastTimes(code)
				if extra >= 0 && extra < 1<<extraBits(code) {
					wantRead(t, head{n, m, flat(), 0, append(signs, sign{code, extra})}, oneOf(n, 256, 1), make(row, m))
				}
				if extra >= -1 && extra+1 < 1<<extraBits(code) {
					wantNoHead(t, head{n, m, flat(), 0, append(signs, sign{code, extra + 1})}.bits()) // one length too many
				}
			}
		}
	}
}

// P9.1, P9.4: lengths of which a repetition reaches from the first ones into the others are put and got.
func TestPutAcross(t *testing.T) {
	for n := 257; n <= 286; n++ {
		for m := 1; m <= 30; m++ {
			wantHead(t, oneOf(n, 256, 1), make(row, m))
		}
	}
	wantHead(t, and(like(9, 2), like(8, 255)), make(row, 5))
	for n := uint8(1); n <= 4; n++ {
		first := and(make(row, 257-len(chain(n))), chain(n))
		wantHead(t, first, like(n, 1<<n))
		wantHead(t, first, padded(like(n, 1<<n), 30))
		wantHead(t, padded(first, 286), like(n, 1<<n))
	}
}

// plainDepth is how long the longest word is, if the two least are put together, again and again.
func plainDepth(freq []int) int {
	type thing struct{ weight, depth int }
	var l []thing
	for _, f := range freq {
		if f > 0 {
			l = append(l, thing{weight: f})
		}
	}
	for len(l) > 1 {
		slices.SortFunc(l, func(a, b thing) int {
			if a.weight != b.weight {
				return a.weight - b.weight
			}
			return b.depth - a.depth
		})
		l = append(l[2:], thing{l[0].weight + l[1].weight, max(l[0].depth, l[1].depth) + 1})
	}
	return l[0].depth
}

// P9.1, P9.4: lengths of which some come so often, and others so seldom, that the best words of signs would have more than 7 bits.
func TestUnlikeFrequencies(t *testing.T) {
	r := source(9)
	deep := 0
	for range 600 {
		first, other := shuffled(r, padded(unlike(r), 286)), make(row, 30)
		if first[256] == 0 || !may(first, other) {
			continue
		}
		signs, _ := repeat.Pack(and(first, other))
		freq := make([]int, 19)
		for _, s := range signs {
			freq[s.Code]++
		}
		if plainDepth(freq) > 7 {
			deep++
		}
		wantHead(t, first, other)
	}
	if deep < 100 {
		t.Errorf("%d such lengths only", deep)
	}
}

// unlike is a full code that has few words of some lengths, and many of others.
func unlike(r *rand.Rand) row {
	lens := and(like(8, 128), chain(15)[1:]) // half of the weight by words of 8 bits; the other half by words of 2, 3, .. bits
	for range 1 + r.IntN(4) {
		i := slices.Index(lens, uint8(2+r.IntN(5)))
		if i < 0 {
			continue
		}
		lens[i] += 3
		lens = append(lens, like(lens[i], 7)...)
	}
	for range 30 {
		if i := r.IntN(len(lens)); lens[i] == 8 && len(lens) < 250 {
			lens[i]++
			lens = append(lens, 9)
		}
	}
	return lens
}

// P9.1: what is put is what others read as a dynamic block's head.
func TestReadByOthers(t *testing.T) {
	r := source(10)
	for range 500 {
		first, other := roughFirst(r), roughOther(r)
		block := "1" + binary(2, 2) + laid(t, "", first, other) + wordsOf(first)[256]
		b, err := io.ReadAll(flate.NewReader(bytes.NewReader(packed(block))))
		if err != nil || len(b) != 0 {
			t.Fatalf("%v, %v: %q, %v", first, other, b, err)
		}
	}
}

// P9.2: heads that others write are read: those of a text's blocks.
func TestWrittenByOthers(t *testing.T) {
	r := source(11)
	heads := 0
	for range 300 {
		text := make([]byte, 1000+r.IntN(3000))
		kinds := 2 + r.IntN(200)
		for i := range text {
			text[i] = byte(r.IntN(1 + r.IntN(kinds)))
		}
		var b bytes.Buffer
		w, _ := flate.NewWriter(&b, 1+r.IntN(9))
		w.Write(text)
		w.Close()
		read := lsb.New(b.Bytes())
		read.Get(1)
		if kind, _ := read.Get(2); kind == 2 {
			first, other, used, ok := definedGet(unpacked(b.Bytes())[3:])
			if !ok {
				t.Fatalf("%x", b.Bytes())
			}
			wantGet(t, read, first, other, used)
			wantHead(t, first, other)
			heads++
		}
	}
	if heads < 100 {
		t.Errorf("%d heads only", heads)
	}
}

// R3: lengths that are handed in are not changed, with the room behind their ends, which plays no part; nor are they kept.
func TestRoomStays(t *testing.T) {
	r := source(12)
	for range 100 {
		first, other := roughFirst(r), roughOther(r)
		want := laid(t, "", first, other)
		room := and(first, row{16, 255, 3}, other, row{99, 1})
		same := slices.Clone(room)
		n, from := len(first), len(first)+3
		if got := laid(t, "", room[:n], room[from:from+len(other)]); got != want {
			t.Fatalf("%s, want %s", got, want)
		}
		if size, e := header.Size(room[:n], room[from:from+len(other)]); size != len(want) || e != api.OK {
			t.Fatalf("Size = %d, %v", size, e)
		}
		wantNotPut(t, room[:n+1], room[from:from+len(other)])
		if !slices.Equal(room, same) {
			t.Fatalf("%v became %v", same, room)
		}
		var w lsb.Writer
		header.Put(&w, first, other)
		before := w.Bytes()
		clear(first)
		clear(other)
		if !bytes.Equal(w.Bytes(), before) {
			t.Fatal("what was laid hangs on the lengths")
		}
	}
}

// R3: both lists may share memory.
func TestSharedLists(t *testing.T) {
	lens := oneOf(286, 256, 1)
	wantHead(t, lens, lens[250:280])
	wantHead(t, lens[:257], lens[256:])
	wantHead(t, lens, lens[:1])
}

// R3: lengths that are handed out are new memory: what is written there, or added to them, no other answer shows, nor the other list.
func TestAnswersAreNew(t *testing.T) {
	r := source(13)
	for range 100 {
		first, other := roughFirst(r), roughOther(r)
		b := packed(roughHead(r, first, other).bits())
		read := lsb.New(b)
		twin := *read
		a1, b1, e1 := header.Get(read)
		a2, b2, e2 := header.Get(&twin)
		if e1 != api.OK || e2 != api.OK {
			t.Fatal(e1, e2)
		}
		for i := range a1[:cap(a1)] {
			a1[:cap(a1)][i] = 77
		}
		_ = append(a1, 78, 79)
		if !slices.Equal(b1, other) || !slices.Equal(a2, first) || !slices.Equal(b2, other) {
			t.Fatalf("%v, %v, %v, want %v, %v", b1, a2, b2, other, first)
		}
		for i := range b2[:cap(b2)] {
			b2[:cap(b2)][i] = 88
		}
		if !slices.Equal(a2, first) || !slices.Equal(b1, other) {
			t.Fatalf("%v, %v, want %v, %v", a2, b1, first, other)
		}
		wantGet(t, lsb.New(b), first, other, read.At())
	}
}

// P9.1, R2: the same lengths have the same head again, whatever was asked between, from many goroutines at once.
func TestSameAgain(t *testing.T) {
	r := source(14)
	type asked struct {
		first, other row
		head         string
	}
	var all []asked
	for range 60 {
		first, other := roughFirst(r), roughOther(r)
		all = append(all, asked{first, other, laid(t, "", first, other)})
	}
	wrong := lsb.New([]byte{0xff})
	var w sync.WaitGroup
	for range 8 {
		w.Go(func() {
			for _, x := range slices.Backward(append(all, all...)) {
				var out lsb.Writer
				e := header.Put(&out, x.first, x.other)
				size, e2 := header.Size(x.first, x.other)
				if e != api.OK || e2 != api.OK || size != len(x.head) || unpacked(out.Bytes())[:out.Len()] != x.head {
					t.Errorf("Put(%v, %v) = %v; Size = %d, %v", x.first, x.other, e, size, e2)
				}
				first, other, e := header.Get(lsb.New(out.Bytes()))
				if e != api.OK || !slices.Equal(first, x.first) || !slices.Equal(other, x.other) {
					t.Errorf("Get = %v, %v, %v", first, other, e)
				}
				twin := *wrong
				if _, _, e := header.Get(&twin); e != api.ErrForm {
					t.Error(e)
				}
				header.Put(&out, nil, x.other)
			}
		})
	}
	w.Wait()
}
