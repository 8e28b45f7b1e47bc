package inflate_test

import (
	"bytes"
	"math/rand/v2"
	"slices"
	"strconv"
	"strings"
)

// row is lengths of a code's words.
type row = []uint8

// What the symbols of lengths, from 257 on, and of distances say at least, and how many bits more they have, as the chapters list it.
var (
	leastLength   = []int{3, 4, 5, 6, 7, 8, 9, 10, 11, 13, 15, 17, 19, 23, 27, 31, 35, 43, 51, 59, 67, 83, 99, 115, 131, 163, 195, 227, 258}
	lengthBits    = []int{0, 0, 0, 0, 0, 0, 0, 0, 1, 1, 1, 1, 2, 2, 2, 2, 3, 3, 3, 3, 4, 4, 4, 4, 5, 5, 5, 5, 0}
	leastDistance = []int{1, 2, 3, 4, 5, 7, 9, 13, 17, 25, 33, 49, 65, 97, 129, 193, 257, 385, 513, 769, 1025, 1537, 2049, 3073, 4097, 6145, 8193, 12289, 16385, 24577}
	distanceBits  = []int{0, 0, 0, 0, 1, 1, 2, 2, 3, 3, 4, 4, 5, 5, 6, 6, 7, 7, 8, 8, 9, 9, 10, 10, 11, 11, 12, 12, 13, 13}
)

// inHead is the order in which a head tells the lengths of the signs' words.
var inHead = []int{16, 17, 18, 0, 8, 7, 9, 6, 10, 5, 11, 4, 12, 3, 13, 2, 14, 1, 15}

// The lengths of the fixed codes.
var (
	fixedFirst = slices.Concat(like(8, 144), like(9, 112), like(7, 24), like(8, 8))
	fixedOther = like(5, 32)
)

func source(seed uint64) *rand.Rand { return rand.New(rand.NewPCG(10, seed)) }

func like(length uint8, n int) row { return bytes.Repeat(row{length}, n) }

// with is n lengths 0, but those of these symbols.
func with(n int, lens map[int]uint8) row {
	l := make(row, n)
	for symbol, length := range lens {
		l[symbol] = length
	}
	return l
}

// number is v as a text of n bits, the lowest first.
func number(v, n int) string {
	var s strings.Builder
	for i := range n {
		s.WriteByte('0' + byte(v>>i&1))
	}
	return s.String()
}

// packed is a text of bits as bytes, the lowest bit of each first, with bits 0 behind.
func packed(bits string) []byte {
	b := make([]byte, (len(bits)+7)/8)
	for i := range bits {
		b[i/8] |= (bits[i] - '0') << (i % 8)
	}
	return b
}

// unpacked is bytes as a text of bits.
func unpacked(b []byte) string {
	var s strings.Builder
	for _, v := range b {
		s.WriteString(number(int(v), 8))
	}
	return s.String()
}

// wordsOf is each symbol's word as a text of bits, the first one first.
func wordsOf(lens row) []string {
	words := make([]string, len(lens))
	next := 0
	for n := 1; n <= 15; n++ {
		for symbol, own := range lens {
			if int(own) == n {
				text := strconv.FormatInt(int64(next), 2)
				words[symbol] = strings.Repeat("0", max(0, n-len(text))) + text
				next++
			}
		}
		next *= 2
	}
	return words
}

// weight is how many words of 15 bits these words are as much as.
func weight(lens row) int {
	sum := 0
	for _, n := range lens {
		if n > 0 {
			sum += 1 << 15 >> n
		}
	}
	return sum
}

func isFull(lens row) bool { return weight(lens) == 1<<15 }

func isSingle(lens row) bool {
	return bytes.Count(lens, row{0}) == len(lens)-1 && bytes.Count(lens, row{1}) == 1
}

// may tells whether a dynamic block may have codes of these lengths, none of which is above 15.
func may(first, other row) bool {
	if len(first) > 286 || len(other) > 30 || first[256] == 0 {
		return false
	}
	return (isFull(first) || isSingle(first)) && (isFull(other) || isSingle(other) || weight(other) == 0)
}

// tok is a symbol, with its bits more; of a length, also a distance's symbol, with its bits more.
type tok struct{ symbol, extra, other, more int }

func byteTok(b byte) tok { return tok{symbol: int(b)} }

func byteToks(text string) []tok {
	var l []tok
	for _, b := range []byte(text) {
		l = append(l, byteTok(b))
	}
	return l
}

// repetition is the token of n bytes that stood dist ahead.
func repetition(n, dist int) tok {
	i, extra := lastUpTo(leastLength, n)
	j, more := lastUpTo(leastDistance, dist)
	return tok{257 + i, extra, j, more}
}

// lastUpTo is the place of the last of these that is not above n, and how far n is above it.
func lastUpTo(l []int, n int) (int, int) {
	i := 0
	for i+1 < len(l) && l[i+1] <= n {
		i++
	}
	return i, n - l[i]
}

// writer puts a stream together, block by block, with what it says beside it.
type writer struct {
	bits strings.Builder
	said []byte
}

func (w *writer) begin(last bool, kind int) {
	if last {
		w.bits.WriteString("1" + number(kind, 2))
	} else {
		w.bits.WriteString("0" + number(kind, 2))
	}
}

// toByteEnd lays the bits of pad, again and again, up to a byte's end.
func (w *writer) toByteEnd(pad string) {
	for i := 0; w.bits.Len()%8 != 0; i++ {
		w.bits.WriteByte(pad[i%len(pad)])
	}
}

// stored lays a stored block, with these bits up to the byte's end.
func (w *writer) stored(last bool, pad string, b []byte) {
	w.begin(last, 0)
	w.toByteEnd(pad)
	w.bits.WriteString(number(len(b), 16) + number(65535-len(b), 16) + unpacked(b))
	w.said = append(w.said, b...)
}

// fixed lays a block by the fixed codes.
func (w *writer) fixed(last bool, toks ...tok) {
	w.begin(last, 1)
	w.toks(fixedFirst, fixedOther, append(toks, tok{symbol: 256}))
}

// dynamic lays a block by these codes.
func (w *writer) dynamic(last bool, first, other row, toks ...tok) {
	w.begin(last, 2)
	w.bits.WriteString(headOf(first, other))
	w.toks(first, other, append(toks, tok{symbol: 256}))
}

// toks lays symbols by these codes: of one that has no word, no bits. What is none says nothing.
func (w *writer) toks(first, other row, toks []tok) {
	firstWords, otherWords := wordsOf(first), wordsOf(other)
	for _, x := range toks {
		w.bits.WriteString(firstWords[x.symbol])
		if x.symbol < 256 {
			w.said = append(w.said, byte(x.symbol))
		}
		if x.symbol <= 256 || x.symbol > 285 {
			continue
		}
		w.bits.WriteString(number(x.extra, lengthBits[x.symbol-257]))
		if x.other >= len(other) {
			continue
		}
		w.bits.WriteString(otherWords[x.other])
		if x.other > 29 {
			continue
		}
		w.bits.WriteString(number(x.more, distanceBits[x.other]))
		w.repeat(leastLength[x.symbol-257]+x.extra, leastDistance[x.other]+x.more)
	}
}

// repeat says n bytes again, if there are so many ahead.
func (w *writer) repeat(n, dist int) {
	for range n {
		if dist <= len(w.said) {
			w.said = append(w.said, w.said[len(w.said)-dist])
		}
	}
}

// headOf is a head that says each of these lengths by itself, whether they may be or not.
func headOf(first, other row) string {
	signs := slices.Concat(like(4, 13), like(5, 6))
	words := wordsOf(signs)
	var s strings.Builder
	s.WriteString(number(len(first)-257, 5) + number(len(other)-1, 5) + number(15, 4))
	for _, code := range inHead {
		s.WriteString(number(int(signs[code]), 3))
	}
	for _, n := range slices.Concat(first, other) {
		s.WriteString(words[n])
	}
	return s.String()
}

// none is what a reader throws where the bits are no stream.
type none struct{}

func need(holds bool) {
	if !holds {
		panic(none{})
	}
}

// reader reads a text of bits by the chapter's words, in a plain way.
type reader struct {
	text string
	at   int
	said []byte
}

// defined is what the chapter's words say of bytes: what a stream says with which they begin, and how many bytes it has, if there is one.
func defined(b []byte) (said []byte, used int, ok bool) {
	r := &reader{text: unpacked(b)}
	defer func() {
		if thrown := recover(); thrown != nil {
			if _, isNone := thrown.(none); !isNone {
				panic(thrown)
			}
			said, used, ok = nil, 0, false
		}
	}()
	for last := 0; last == 0; {
		last = r.number(1)
		r.block(r.number(2))
	}
	return r.said, (r.at + 7) / 8, true
}

func (r *reader) number(n int) int {
	need(r.at+n <= len(r.text))
	v := 0
	for i := range n {
		v += int(r.text[r.at+i]-'0') << i
	}
	r.at += n
	return v
}

// symbol reads the word that the bits go on with.
func (r *reader) symbol(words map[string]int) int {
	for n := 1; n <= 15; n++ {
		need(r.at+n <= len(r.text))
		if symbol, ok := words[r.text[r.at:r.at+n]]; ok {
			r.at += n
			return symbol
		}
	}
	panic(none{})
}

func (r *reader) block(kind int) {
	switch kind {
	case 0:
		r.at = (r.at + 7) / 8 * 8
		n := r.number(16)
		need(r.number(16) == 65535-n)
		for range n {
			r.said = append(r.said, byte(r.number(8)))
		}
	case 1:
		r.symbols(fixedFirst, fixedOther)
	case 2:
		r.symbols(r.head())
	case 3:
		panic(none{})
	}
}

func (r *reader) head() (first, other row) {
	n, m, told := 257+r.number(5), 1+r.number(5), 4+r.number(4)
	signs := make(row, 19)
	for _, code := range inHead[:told] {
		signs[code] = uint8(r.number(3))
	}
	need(isFull(signs))
	words := symbolsOf(signs)
	var lens row
	for len(lens) < n+m {
		switch code := r.symbol(words); code {
		case 16:
			need(len(lens) > 0)
			lens = append(lens, like(lens[len(lens)-1], 3+r.number(2))...)
		case 17:
			lens = append(lens, make(row, 3+r.number(3))...)
		case 18:
			lens = append(lens, make(row, 11+r.number(7))...)
		default:
			lens = append(lens, uint8(code))
		}
	}
	need(len(lens) == n+m && may(lens[:n], lens[n:]))
	return lens[:n], lens[n:]
}

func (r *reader) symbols(first, other row) {
	firstSymbols, otherSymbols := symbolsOf(first), symbolsOf(other)
	for {
		symbol := r.symbol(firstSymbols)
		switch {
		case symbol < 256:
			r.said = append(r.said, byte(symbol))
			continue
		case symbol == 256:
			return
		}
		need(symbol <= 285)
		n := leastLength[symbol-257] + r.number(lengthBits[symbol-257])
		symbol = r.symbol(otherSymbols)
		need(symbol <= 29)
		dist := leastDistance[symbol] + r.number(distanceBits[symbol])
		need(dist <= len(r.said))
		for range n {
			r.said = append(r.said, r.said[len(r.said)-dist])
		}
	}
}

// symbolsOf is the symbols by their words.
func symbolsOf(lens row) map[string]int {
	symbols := map[string]int{}
	for symbol, w := range wordsOf(lens) {
		if w != "" {
			symbols[w] = symbol
		}
	}
	return symbols
}

// roughBytes is n bytes, of few kinds or of many.
func roughBytes(r *rand.Rand, n int) []byte {
	b := make([]byte, n)
	kinds := []int{1, 2, 256}[r.IntN(3)]
	for i := range b {
		b[i] = byte(r.IntN(kinds))
	}
	return b
}

// roughBits is a text of n bits.
func roughBits(r *rand.Rand, n int) string {
	var s strings.Builder
	for range n {
		s.WriteByte('0' + byte(r.IntN(2)))
	}
	return s.String()
}

// roughCode is a full code of that many words, 2 at least, none longer than 15: words are parted in two, again and again.
func roughCode(r *rand.Rand, words int) row {
	lens := row{0}
	skew := r.IntN(3)
	for len(lens) < words {
		i := r.IntN(len(lens))
		if r.IntN(3) < skew {
			i = len(lens) - 1 // the longest words are parted more often
		}
		if lens[i] == 15 {
			i = slices.Index(lens, slices.Min(lens))
		}
		lens[i]++
		lens = append(lens, lens[i])
	}
	return lens
}

// roughFirst is lengths of a first code that may be.
func roughFirst(r *rand.Rand) row {
	n := 257 + r.IntN(30)
	lens := make(row, n)
	switch r.IntN(10) {
	case 0:
		lens[256] = 1
		return lens
	case 1:
		copy(lens[256:], roughCode(r, max(2, n-256))) // the end and lengths alone
		if n > 257 {
			return lens
		}
		lens[0] = lens[256]
		return lens
	}
	copy(lens, roughCode(r, 2+r.IntN(n-1)))
	r.Shuffle(n, func(i, j int) { lens[i], lens[j] = lens[j], lens[i] })
	if lens[256] == 0 {
		i := slices.IndexFunc(lens, func(n uint8) bool { return n > 0 })
		lens[i], lens[256] = 0, lens[i]
	}
	return lens
}

// roughOther is lengths of a code of distances that may be.
func roughOther(r *rand.Rand) row {
	n := 1 + r.IntN(30)
	lens := make(row, n)
	switch kind := r.IntN(8); {
	case kind == 0:
	case kind == 1 || n == 1:
		lens[r.IntN(n)] = 1
	default:
		copy(lens, roughCode(r, 2+r.IntN(n-1)))
		r.Shuffle(n, func(i, j int) { lens[i], lens[j] = lens[j], lens[i] })
	}
	return lens
}

// roughToks lays up to n rough tokens that have words in these codes, and may be behind what was said.
func (w *writer) roughToks(r *rand.Rand, first, other row, n int) []tok {
	var l []tok
	size := len(w.said)
	for range n {
		x := tok{symbol: r.IntN(min(len(first), 286))}
		if r.IntN(2) == 0 {
			x.symbol = min(257+r.IntN(29), len(first)-1)
		}
		if first[x.symbol] == 0 || x.symbol == 256 {
			continue
		}
		if x.symbol < 256 {
			l = append(l, x)
			size++
			continue
		}
		x.extra = r.IntN(1 << lengthBits[x.symbol-257])
		x.other = r.IntN(min(len(other), 30))
		x.more = r.IntN(1 << distanceBits[x.other])
		if other[x.other] != 0 && leastDistance[x.other]+x.more <= size {
			l = append(l, x)
			size += leastLength[x.symbol-257] + x.extra
		}
	}
	return l
}

// roughBlock lays a block of some kind.
func (w *writer) roughBlock(r *rand.Rand, last bool) {
	switch r.IntN(4) {
	case 0:
		w.stored(last, roughBits(r, 7), roughBytes(r, r.IntN([]int{1, 2, 30, 600}[r.IntN(4)])))
	case 1:
		w.fixed(last, w.roughToks(r, fixedFirst, fixedOther, r.IntN(60))...)
	default:
		first, other := roughFirst(r), roughOther(r)
		w.dynamic(last, first, other, w.roughToks(r, first, other, r.IntN(120))...)
	}
}

// roughStream is a stream of some blocks.
func roughStream(r *rand.Rand) *writer {
	w := &writer{}
	if r.IntN(20) == 0 {
		w.stored(false, "01", roughBytes(r, 32000+r.IntN(2000))) // so that the greatest distances may be
	}
	for range r.IntN(5) {
		w.roughBlock(r, false)
	}
	w.roughBlock(r, true)
	return w
}
