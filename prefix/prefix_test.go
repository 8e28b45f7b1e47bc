package prefix_test

import (
	"bytes"
	"math"
	"math/rand/v2"
	"slices"
	"strconv"
	"strings"
	"sync"
	"testing"

	"presswork/api"
	"presswork/kraft"
	"presswork/lsb"
	"presswork/msb"
	"presswork/prefix"
)

const (
	most    = 512
	longest = 20
)

// writer is what both orders' writers have in common.
type writer interface {
	Put(v uint32, n int) api.Errno
	Len() int
	Bytes() []byte
}

// reader is what both orders' readers have in common.
type reader interface {
	Get(n int) (uint32, api.Errno)
	At() int
	Left() int
}

// order is one of both orders.
type order struct {
	name   string
	writer func() writer
	reader func(b []byte) reader
	put    func(t *prefix.Table, w writer, symbol int) api.Errno
	get    func(t *prefix.Table, r reader) (int, api.Errno)
}

func orders() []order {
	return []order{
		{
			"Low",
			func() writer { return new(lsb.Writer) },
			func(b []byte) reader { return lsb.New(b) },
			func(t *prefix.Table, w writer, symbol int) api.Errno { return t.PutLow(w.(*lsb.Writer), symbol) },
			func(t *prefix.Table, r reader) (int, api.Errno) { return t.GetLow(r.(*lsb.Reader)) },
		},
		{
			"High",
			func() writer { return new(msb.Writer) },
			func(b []byte) reader { return msb.New(b) },
			func(t *prefix.Table, w writer, symbol int) api.Errno { return t.PutHigh(w.(*msb.Writer), symbol) },
			func(t *prefix.Table, r reader) (int, api.Errno) { return t.GetHigh(r.(*msb.Reader)) },
		},
	}
}

// bitsOf is what a writer has, as a text of bits.
func (o order) bitsOf(t *testing.T, w writer) string {
	t.Helper()
	r := o.reader(w.Bytes())
	var s strings.Builder
	for range w.Len() {
		bit, e := r.Get(1)
		if e != api.OK {
			t.Fatal(e)
		}
		s.WriteByte('0' + byte(bit))
	}
	if left, e := r.Get(r.Left()); left != 0 || e != api.OK || r.Left() != 0 {
		t.Fatalf("Put%s: %b behind the end, %v", o.name, left, e)
	}
	return s.String()
}

// written is a writer that has these bits.
func (o order) written(bits string) writer {
	w := o.writer()
	for _, bit := range []byte(bits) {
		w.Put(uint32(bit-'0'), 1)
	}
	return w
}

// at is a reader that has just these bits left, and how many it read ahead of them.
func (o order) at(t *testing.T, bits string) (reader, int) {
	t.Helper()
	ahead := -len(bits) & 7
	r := o.reader(o.written(strings.Repeat("1", ahead) + bits).Bytes())
	if _, e := r.Get(ahead); e != api.OK || r.Left() != len(bits) {
		t.Fatalf("%d bits left, %v", r.Left(), e)
	}
	return r, ahead
}

// made is a table of these lengths.
func made(t *testing.T, lens []uint8) *prefix.Table {
	t.Helper()
	table, e := prefix.New(lens)
	if e != api.OK || table == nil {
		t.Fatalf("New(%v) = %v, %v", lens, table, e)
	}
	return table
}

// wantNoTable asks for this error, and for no table beside it.
func wantNoTable(t *testing.T, lens []uint8, want api.Errno) {
	t.Helper()
	if table, e := prefix.New(lens); table != nil || e != want {
		t.Errorf("New(%d: %v) = %v, %v, want nil, %v", len(lens), lens, table, e, want)
	}
}

func wantBits(t *testing.T, table *prefix.Table, symbol, want int) {
	t.Helper()
	if got := table.Bits(symbol); got != want {
		t.Errorf("Bits(%d) = %d, want %d", symbol, got, want)
	}
}

// wantPut asks that the symbol's word is laid behind what there is: these bits, no others.
func (o order) wantPut(t *testing.T, table *prefix.Table, w writer, symbol int, word string) {
	t.Helper()
	before := o.bitsOf(t, w)
	if e := o.put(table, w, symbol); e != api.OK {
		t.Fatalf("Put%s(%d) = %v", o.name, symbol, e)
	}
	if got := o.bitsOf(t, w); got != before+word {
		t.Fatalf("Put%s(%d): %s became %s, want %s more", o.name, symbol, before, got, word)
	}
}

// wantNotPut asks for this error, and that nothing is laid.
func (o order) wantNotPut(t *testing.T, table *prefix.Table, w writer, symbol int, want api.Errno) {
	t.Helper()
	before, row := w.Len(), w.Bytes()
	if e := o.put(table, w, symbol); e != want {
		t.Errorf("Put%s(%d) = %v, want %v", o.name, symbol, e, want)
	}
	if w.Len() != before || !bytes.Equal(w.Bytes(), row) {
		t.Errorf("Put%s(%d): %x became %x", o.name, symbol, row, w.Bytes())
	}
}

// wantGet asks for this symbol and this error, and that so many bits are read.
func (o order) wantGet(t *testing.T, table *prefix.Table, r reader, symbol int, want api.Errno, bits int) {
	t.Helper()
	at, left := r.At(), r.Left()
	if got, e := o.get(table, r); got != symbol || e != want {
		t.Fatalf("Get%s = %d, %v, want %d, %v", o.name, got, e, symbol, want)
	}
	if r.At() != at+bits || r.Left() != left-bits {
		t.Fatalf("Get%s: %d bits were read, %d went, want %d", o.name, r.At()-at, left-r.Left(), bits)
	}
}

// wordsOf is each symbol's word (kraft.Words), as a text of bits; nothing of a symbol that has none.
func wordsOf(t *testing.T, lens []uint8) []string {
	t.Helper()
	numbers, e := kraft.Words(lens)
	if e != api.OK || len(numbers) != len(lens) {
		t.Fatalf("Words(%v) = %b, %v", lens, numbers, e)
	}
	words := make([]string, len(lens))
	for symbol, n := range lens {
		if n != 0 {
			bits := strconv.FormatUint(uint64(numbers[symbol]), 2)
			words[symbol] = strings.Repeat("0", max(0, int(n)-len(bits))) + bits
		}
	}
	return words
}

// definedGet is what the chapter's words say of these bits: the symbol, the error, and how many bits are read.
func definedGet(words []string, bits string) (int, api.Errno, int) {
	begun := func(row string) bool {
		return slices.ContainsFunc(words, func(word string) bool { return word != "" && strings.HasPrefix(word, row) })
	}
	for n := 0; begun(bits[:n]); n++ {
		if symbol := slices.Index(words, bits[:n]); n > 0 && symbol >= 0 {
			return symbol, api.OK, n
		}
		if n == len(bits) {
			return 0, api.ErrForm, n
		}
		if !begun(bits[:n+1]) {
			return 0, api.ErrForm, n + 1
		}
	}
	return 0, api.ErrForm, 0
}

// wantDefinedGet holds a read of these bits, and no more, against the chapter's words, in both orders.
func wantDefinedGet(t *testing.T, table *prefix.Table, words []string, bits string) {
	t.Helper()
	for _, o := range orders() {
		r, _ := o.at(t, bits)
		symbol, e, n := definedGet(words, bits)
		o.wantGet(t, table, r, symbol, e, n)
	}
}

func source(n uint64) *rand.Rand { return rand.New(rand.NewPCG(n, 6)) }

// roughBits is so many bits that look rough.
func roughBits(r *rand.Rand, n int) string {
	var s strings.Builder
	for range n {
		s.WriteByte('0' + byte(r.IntN(2)))
	}
	return s.String()
}

// full is a full code of that many words, at least 2; the longest word that can be split is split, at one of so many times.
func full(r *rand.Rand, words, times int) []uint8 {
	l := []uint8{1, 1}
	for len(l) < words {
		i := len(l) - 1
		if l[i] == longest || r.IntN(times) != 0 {
			i = r.IntN(len(l))
		}
		if l[i] < longest {
			l[i]++
			l = append(l, l[i])
		}
	}
	return l
}

// scattered lays these lengths at rough places of a row of that many, zeros between them.
func scattered(r *rand.Rand, lens []uint8, size int) []uint8 {
	l := slices.Concat(lens, make([]uint8, size-len(lens)))
	r.Shuffle(len(l), func(i, j int) { l[i], l[j] = l[j], l[i] })
	return l
}

// comb is 1, 2, .. 20, and 20 again: a full code with words of all lengths.
func comb() []uint8 {
	var l []uint8
	for n := uint8(1); n <= longest; n++ {
		l = append(l, n)
	}
	return append(l, longest)
}

func like(n uint8, count int) []uint8 { return slices.Repeat([]uint8{n}, count) }

// fixed are the lengths of DEFLATE's own code of literals and lengths.
func fixed() []uint8 {
	return slices.Concat(like(8, 144), like(9, 112), like(7, 24), like(8, 8))
}

// fullCodes are full codes of many kinds.
func fullCodes() [][]uint8 {
	r := source(1)
	l := [][]uint8{{1, 1}, {2, 1, 0, 2}, {1, 2, 2}, {3, 3, 2, 1}, comb(), fixed(), like(5, 32), like(9, most)}
	for words := 2; words < most; words += 1 + r.IntN(60) {
		l = append(l, scattered(r, full(r, words, 9), words+r.IntN(most-words+1)), full(r, words, 1))
	}
	return append(l, full(r, most, 2))
}

// underCodes are single words, words of 20 bits, and the full codes with words taken away, or made longer.
func underCodes() [][]uint8 {
	r := source(2)
	l := [][]uint8{{1}, {0, 1}, {2}, {0, 0, 20}, {20, 20, 20}, {1, 20}, {2, 20, 1}, {3, 3, 3}, like(20, most), comb()[:longest]}
	for _, lens := range fullCodes() {
		fewer, longer := slices.Clone(lens), slices.Clone(lens)
		for range 1 + r.IntN(3) {
			fewer[r.IntN(len(lens))] = 0
		}
		for i := range longer {
			if longer[i] != 0 && longer[i] < longest && r.IntN(4) == 0 {
				longer[i] += 1 + uint8(r.IntN(int(longest-longer[i])))
			}
		}
		l = append(l, fewer, longer)
	}
	return l
}

// noCodes are lengths without words.
func noCodes() [][]uint8 {
	return [][]uint8{nil, {}, make([]uint8, 0, 8), {0}, {0, 0}, make([]uint8, most)}
}

// smallCodes are all rows of up to 4 lengths, each up to 4, that are not over.
func smallCodes(t *testing.T) [][]uint8 {
	t.Helper()
	var l [][]uint8
	var lay func(lens []uint8)
	lay = func(lens []uint8) {
		if class, e := kraft.Classify(lens); e != api.OK {
			t.Fatal(e)
		} else if class == kraft.Over {
			return
		}
		l = append(l, slices.Clone(lens))
		for n := uint8(0); n <= 4 && len(lens) < 4; n++ {
			lay(append(lens[:len(lens):len(lens)], n))
		}
	}
	lay(nil)
	return l
}

// none are symbols that no code has.
func none(size int) []int {
	return []int{-1, -2, -size, size, size + 1, 1 << 32, -1 << 32, math.MaxInt, math.MinInt}
}

// P6.1, P6.2, P6.3: the chapter's examples.
func TestExamples(t *testing.T) {
	table := made(t, []uint8{2, 1, 0, 2})
	var low lsb.Writer
	var high msb.Writer
	for _, symbol := range []int{0, 1, 3} {
		if e := table.PutLow(&low, symbol); e != api.OK {
			t.Errorf("PutLow(%d) = %v", symbol, e)
		}
		if e := table.PutHigh(&high, symbol); e != api.OK {
			t.Errorf("PutHigh(%d) = %v", symbol, e)
		}
	}
	if got := low.Bytes(); low.Len() != 5 || !bytes.Equal(got, []byte{0x19}) {
		t.Errorf("PutLow: %d bits, %x", low.Len(), got)
	}
	if got := high.Bytes(); high.Len() != 5 || !bytes.Equal(got, []byte{0x98}) {
		t.Errorf("PutHigh: %d bits, %x", high.Len(), got)
	}
	r := msb.New([]byte{0x98})
	for i, want := range []int{0, 1, 3, 1} {
		if got, e := table.GetHigh(r); got != want || e != api.OK {
			t.Errorf("GetHigh, the call %d: %d, %v", i, got, e)
		}
	}
	if e := table.PutLow(&low, 2); e != api.ErrArg {
		t.Errorf("PutLow(2) = %v", e)
	}
	wantBits(t, table, 0, 2)
	wantBits(t, table, 2, 0)
	wantBits(t, table, 9, 0)
}

// P6.1: what kraft.Words refuses is refused, with its error, ErrArg ahead of ErrForm.
func TestNoTable(t *testing.T) {
	for _, lens := range [][]uint8{{1, 1, 1}, {1, 2, 2, 20}, {1, 1, 20}, like(1, most), like(8, 257), append(comb(), longest)} {
		wantNoTable(t, lens, api.ErrForm)
	}
	for _, lens := range [][]uint8{
		{21}, {255}, {0, 0, 21}, {1, 1, 1, 21}, append(comb(), 21),
		make([]uint8, most+1), like(1, most+1), like(20, most+1), like(21, 1<<16),
	} {
		wantNoTable(t, lens, api.ErrArg)
	}
	for n := range 256 {
		for _, beside := range []uint8{0, 1, 2, 20} {
			lens := []uint8{beside, uint8(n), beside}
			if _, e := kraft.Words(lens); e != api.OK {
				wantNoTable(t, lens, e)
			} else {
				wantBits(t, made(t, lens), 1, n)
			}
		}
	}
}

// P6.1, R6: lengths without words have a table, without words.
func TestTableWithoutWords(t *testing.T) {
	for _, lens := range noCodes() {
		table := made(t, lens)
		for symbol := range most + 1 {
			wantBits(t, table, symbol, 0)
		}
		for _, o := range orders() {
			for _, symbol := range append(none(len(lens)), 0, most-1) {
				wantBits(t, table, symbol, 0)
				o.wantNotPut(t, table, o.written("10110"), symbol, api.ErrArg)
			}
		}
	}
}

// P6.1: how many bits a word has; none, of a symbol that has none, or that there is not.
func TestBits(t *testing.T) {
	for _, lens := range slices.Concat(fullCodes(), underCodes(), smallCodes(t)) {
		table := made(t, lens)
		for symbol, n := range lens {
			wantBits(t, table, symbol, int(n))
		}
		for _, symbol := range none(len(lens)) {
			wantBits(t, table, symbol, 0)
		}
	}
}

// P6.2: each symbol's word is laid, its highest bit first, at each place of a byte.
func TestPutEachWord(t *testing.T) {
	for _, lens := range slices.Concat([][]uint8{{2, 1, 0, 2}, comb(), fixed(), {0, 0, 20}, like(9, most), full(source(3), 40, 3)}, smallCodes(t)) {
		table := made(t, lens)
		for symbol, word := range wordsOf(t, lens) {
			if word == "" {
				continue
			}
			for _, o := range orders() {
				for ahead := range 9 {
					o.wantPut(t, table, o.written(strings.Repeat("1", ahead)), symbol, word)
				}
			}
		}
	}
}

// P6.2: words that are known from elsewhere: of DEFLATE's own code (RFC 1951, 3.2.6).
func TestPutKnownWords(t *testing.T) {
	table := made(t, fixed())
	for _, o := range orders() {
		for symbol, word := range map[int]string{
			0: "00110000", 143: "10111111", 144: "110010000", 255: "111111111",
			256: "0000000", 279: "0010111", 280: "11000000", 287: "11000111",
		} {
			o.wantPut(t, table, o.writer(), symbol, word)
			wantBits(t, table, symbol, len(word))
		}
	}
}

// P6.2, R4, R7: a symbol that has no word, or that there is not: ErrArg, and nothing is laid.
func TestPutNoWord(t *testing.T) {
	for _, lens := range [][]uint8{{2, 1, 0, 2}, {0, 1}, {1, 0}, {0, 20, 0}, scattered(source(4), full(source(4), 200, 3), most)} {
		table := made(t, lens)
		for _, o := range orders() {
			for _, w := range []writer{o.writer(), o.written("1"), o.written("10110011"), o.written("110100111")} {
				for symbol, n := range lens {
					if n == 0 {
						o.wantNotPut(t, table, w, symbol, api.ErrArg)
					}
				}
				for _, symbol := range none(len(lens)) {
					o.wantNotPut(t, table, w, symbol, api.ErrArg)
				}
			}
		}
	}
}

// P6.1, P6.2, P6.3, R1: a nil table: ErrNil, ahead of ErrArg and ErrForm; nothing is laid, or read.
func TestNilTable(t *testing.T) {
	for _, symbol := range append(none(4), 0, 1) {
		wantBits(t, nil, symbol, 0)
		for _, o := range orders() {
			o.wantNotPut(t, nil, o.written("101"), symbol, api.ErrNil)
		}
		var table *prefix.Table
		if e := table.PutLow(nil, symbol); e != api.ErrNil {
			t.Errorf("PutLow(nil, %d) of nil = %v", symbol, e)
		}
		if e := table.PutHigh(nil, symbol); e != api.ErrNil {
			t.Errorf("PutHigh(nil, %d) of nil = %v", symbol, e)
		}
	}
	for _, o := range orders() {
		o.wantGet(t, nil, o.reader([]byte{0x98}), 0, api.ErrNil, 0)
		o.wantGet(t, nil, o.reader(nil), 0, api.ErrNil, 0)
	}
	var table *prefix.Table
	if symbol, e := table.GetLow(nil); symbol != 0 || e != api.ErrNil {
		t.Errorf("GetLow(nil) of nil = %d, %v", symbol, e)
	}
	if symbol, e := table.GetHigh(nil); symbol != 0 || e != api.ErrNil {
		t.Errorf("GetHigh(nil) of nil = %d, %v", symbol, e)
	}
}

// P6.2, P6.3, R1: a nil writer, a nil reader: ErrNil, ahead of ErrArg and ErrForm.
func TestNilWriterAndReader(t *testing.T) {
	for _, lens := range [][]uint8{nil, {0}, {1}, {2, 1, 0, 2}} {
		table := made(t, lens)
		for _, symbol := range append(none(len(lens)), 0, 1, 2, 3) {
			if e := table.PutLow(nil, symbol); e != api.ErrNil {
				t.Errorf("PutLow(nil, %d) = %v", symbol, e)
			}
			if e := table.PutHigh(nil, symbol); e != api.ErrNil {
				t.Errorf("PutHigh(nil, %d) = %v", symbol, e)
			}
		}
		if symbol, e := table.GetLow(nil); symbol != 0 || e != api.ErrNil {
			t.Errorf("GetLow(nil) = %d, %v", symbol, e)
		}
		if symbol, e := table.GetHigh(nil); symbol != 0 || e != api.ErrNil {
			t.Errorf("GetHigh(nil) = %d, %v", symbol, e)
		}
	}
}

// R1: the zero value of Table is a table without words.
func TestZeroTable(t *testing.T) {
	table := new(prefix.Table)
	wantBits(t, table, 0, 0)
	for _, o := range orders() {
		o.wantNotPut(t, table, o.writer(), 0, api.ErrArg)
		o.wantGet(t, table, o.reader([]byte{0x98}), 0, api.ErrForm, 0)
	}
}

// P6.3: of a table without words no bit is read, whatever there is.
func TestGetWithoutWords(t *testing.T) {
	for _, lens := range noCodes() {
		table := made(t, lens)
		for _, o := range orders() {
			for _, bits := range []string{"", "0", "1", "00000000", "1111111111111111111111"} {
				r, _ := o.at(t, bits)
				o.wantGet(t, table, r, 0, api.ErrForm, 0)
				o.wantGet(t, table, r, 0, api.ErrForm, 0)
			}
		}
	}
}

// P6.3: all small codes, all rows of up to 6 bits: rows that are words, that end inside one, that no word begins.
func TestGetAllRows(t *testing.T) {
	for _, lens := range smallCodes(t) {
		table, words := made(t, lens), wordsOf(t, lens)
		for n := range 7 {
			for v := range 1 << n {
				bits := strconv.FormatInt(int64(1<<n|v), 2)[1:]
				wantDefinedGet(t, table, words, bits)
			}
		}
	}
}

// P6.3: rough bits, all kinds of codes.
func TestGetRoughRows(t *testing.T) {
	r := source(5)
	for _, lens := range slices.Concat(fullCodes(), underCodes()) {
		table, words := made(t, lens), wordsOf(t, lens)
		for range 12 {
			wantDefinedGet(t, table, words, roughBits(r, r.IntN(30)))
			wantDefinedGet(t, table, words, strings.Repeat("0", r.IntN(22))+roughBits(r, r.IntN(8)))
			wantDefinedGet(t, table, words, strings.Repeat("1", r.IntN(22))+roughBits(r, r.IntN(8)))
		}
	}
}

// P6.3: a row that ends inside a word: all its bits are read, and stay read; then none is left.
func TestGetEndsInside(t *testing.T) {
	for _, lens := range [][]uint8{{2, 1, 0, 2}, comb(), fixed(), {0, 0, 20}, like(20, most), full(source(6), 90, 2)} {
		table := made(t, lens)
		for _, word := range wordsOf(t, lens) {
			for n := range len(word) {
				for _, o := range orders() {
					r, _ := o.at(t, word[:n])
					o.wantGet(t, table, r, 0, api.ErrForm, n)
					o.wantGet(t, table, r, 0, api.ErrForm, 0)
				}
			}
		}
	}
}

// P6.3: a row that no word begins: the bits up to the first one that no word goes on with are read, no more, and stay read: what is behind them is read next.
func TestGetNoWord(t *testing.T) {
	for _, x := range []struct {
		lens []uint8
		bits string
		read int
	}{
		{[]uint8{1}, "1", 1},
		{[]uint8{0, 1}, "1", 1},
		{[]uint8{2}, "1", 1},
		{[]uint8{2}, "01", 2},
		{[]uint8{2, 2, 2}, "11", 2},
		{[]uint8{3, 3, 3}, "1", 1},
		{[]uint8{3, 3, 3}, "011", 3},
		{[]uint8{1, 3}, "11", 2},
		{[]uint8{1, 3}, "101", 3},
		{[]uint8{1, 20}, "11", 2},
		{[]uint8{20}, "00000000000000000001", 20},
		{[]uint8{20}, "001", 3},
		{comb()[:longest], "11111111111111111111", 20},
	} {
		table := made(t, x.lens)
		first := slices.IndexFunc(wordsOf(t, x.lens), func(word string) bool { return word != "" && !strings.Contains(word, "1") })
		for _, o := range orders() {
			for ahead := range 8 {
				behind := strings.Repeat("0", int(x.lens[first]))
				r := o.reader(o.written(strings.Repeat("0", ahead) + x.bits + behind + "1").Bytes())
				r.Get(ahead)
				o.wantGet(t, table, r, 0, api.ErrForm, x.read)
				o.wantGet(t, table, r, first, api.OK, len(behind))
			}
		}
	}
}

// P6.1, P6.2, P6.3: a word alone, of each length, at some places of a row: it is bits 0 alone.
func TestWordAlone(t *testing.T) {
	for n := 1; n <= longest; n++ {
		for _, at := range []int{0, 1, 257, most - 1} {
			lens := make([]uint8, at+1)
			lens[at] = uint8(n)
			table, word := made(t, lens), strings.Repeat("0", n)
			wantBits(t, table, at, n)
			for _, o := range orders() {
				w := o.written("1")
				o.wantPut(t, table, w, at, word)
				r, _ := o.at(t, "0"+word+word)
				r.Get(1)
				o.wantGet(t, table, r, at, api.OK, n)
				o.wantGet(t, table, r, at, api.OK, n)
				o.wantGet(t, table, r, 0, api.ErrForm, 0)
			}
		}
	}
}

// P6.2, P6.3: words of all lengths up to 20 bits.
func TestLongWords(t *testing.T) {
	table := made(t, comb())
	for _, o := range orders() {
		w := o.writer()
		for n := 1; n <= longest; n++ {
			o.wantPut(t, table, w, n-1, strings.Repeat("1", n-1)+"0")
		}
		o.wantPut(t, table, w, longest, strings.Repeat("1", longest))
		r := o.reader(w.Bytes())
		for n := 1; n <= longest; n++ {
			o.wantGet(t, table, r, n-1, api.OK, n)
		}
		o.wantGet(t, table, r, longest, api.OK, longest)
	}
	table = made(t, like(20, most))
	for _, o := range orders() {
		w := o.writer()
		o.wantPut(t, table, w, most-1, "00000000000111111111")
		o.wantGet(t, table, o.reader(w.Bytes()), most-1, api.OK, longest)
	}
}

// wantGot puts the symbols and gets them again, whatever stands ahead and behind, and answers the words' bits.
func (o order) wantGot(t *testing.T, table *prefix.Table, symbols []int, ahead, behind string) string {
	t.Helper()
	w := o.written(ahead)
	for _, symbol := range symbols {
		before := w.Len()
		if e := o.put(table, w, symbol); e != api.OK || w.Len() != before+table.Bits(symbol) {
			t.Fatalf("Put%s(%d) = %v, %d bits", o.name, symbol, e, w.Len()-before)
		}
	}
	bits := o.bitsOf(t, w)[len(ahead):]
	for _, bit := range []byte(behind) {
		w.Put(uint32(bit-'0'), 1)
	}
	r := o.reader(w.Bytes())
	r.Get(len(ahead))
	for _, symbol := range symbols {
		o.wantGet(t, table, r, symbol, api.OK, table.Bits(symbol))
	}
	if r.At() != len(ahead)+len(bits) {
		t.Fatalf("Get%s: at %d, want %d", o.name, r.At(), len(ahead)+len(bits))
	}
	return bits
}

// P6.4: what is put is got, symbol by symbol, whatever stands behind; both orders lay the same words as bits.
func TestPutIsGot(t *testing.T) {
	r := source(7)
	for _, lens := range slices.Concat(fullCodes(), underCodes(), smallCodes(t)) {
		table, words := made(t, lens), wordsOf(t, lens)
		var symbols []int
		for symbol, word := range words {
			if word != "" {
				symbols = append(symbols, symbol)
			}
		}
		if len(symbols) == 0 {
			continue
		}
		for range 20 {
			symbols = append(symbols, symbols[r.IntN(len(symbols))])
		}
		r.Shuffle(len(symbols), func(i, j int) { symbols[i], symbols[j] = symbols[j], symbols[i] })
		var want strings.Builder
		for _, symbol := range symbols {
			want.WriteString(words[symbol])
		}
		for _, behind := range []string{"", strings.Repeat("0", 21), strings.Repeat("1", 21), roughBits(r, r.IntN(30))} {
			ahead := roughBits(r, r.IntN(9))
			for _, o := range orders() {
				if got := o.wantGot(t, table, symbols, ahead, behind); got != want.String() {
					t.Fatalf("Put%s of %v, lengths %v: %s, want %s", o.name, symbols, lens, got, want.String())
				}
			}
		}
	}
}

// P6.4: words of two tables in turn, as DEFLATE's codes stand, and numbers between them.
func TestTablesInTurn(t *testing.T) {
	r := source(8)
	a, b := made(t, fixed()), made(t, like(5, 30))
	for _, o := range orders() {
		w := o.writer()
		var numbers []int
		for range 300 {
			x, y, v := r.IntN(288), r.IntN(30), r.IntN(1<<13)
			numbers = append(numbers, x, v, y)
			o.put(a, w, x)
			w.Put(uint32(v), 13)
			o.put(b, w, y)
		}
		back := o.reader(w.Bytes())
		for i := 0; i < len(numbers); i += 3 {
			o.wantGet(t, a, back, numbers[i], api.OK, a.Bits(numbers[i]))
			if v, e := back.Get(13); int(v) != numbers[i+1] || e != api.OK {
				t.Fatalf("Get(13) = %d, %v, want %d", v, e, numbers[i+1])
			}
			o.wantGet(t, b, back, numbers[i+2], api.OK, 5)
		}
	}
}

// R3: lengths are not changed, with the room behind their end, which plays no part.
func TestLengthsStay(t *testing.T) {
	for _, room := range [][]uint8{
		{2, 1, 0, 2, 21, 1, 1, 0xee},
		{1, 1, 1, 0, 21, 1, 1, 0xee},
		{1, 21, 1, 0, 1, 1, 1, 0xee},
		{0, 0, 0, 0, 1, 2, 3, 0xee},
	} {
		whole := slices.Clone(room)
		table, e := prefix.New(room[:4])
		if !slices.Equal(room, whole) {
			t.Errorf("%v became %v", whole, room)
		}
		if _, other := kraft.Words(whole[:4]); e != other {
			t.Errorf("New(%v) = %v, want %v", whole[:4], e, other)
		}
		if e == api.OK {
			wantBits(t, table, 4, 0)
			wantBits(t, table, 5, 0)
		}
	}
}

// R3: a table stays what it is when the lengths that it was made of are changed.
func TestTableStays(t *testing.T) {
	lens := []uint8{2, 1, 0, 2}
	table := made(t, lens)
	other := made(t, lens)
	for i := range lens {
		lens[i] = uint8(20 - i)
	}
	third := made(t, lens)
	for range 2 {
		for _, one := range []*prefix.Table{table, other} {
			for symbol, word := range []string{"10", "0", "", "11"} {
				wantBits(t, one, symbol, len(word))
				for _, o := range orders() {
					if word == "" {
						o.wantNotPut(t, one, o.writer(), symbol, api.ErrArg)
						continue
					}
					o.wantPut(t, one, o.writer(), symbol, word)
					r, _ := o.at(t, word)
					o.wantGet(t, one, r, symbol, api.OK, len(word))
				}
			}
		}
		wantBits(t, third, 2, 18)
		clear(lens)
	}
}

// R2: what a table answers does not hang on what was asked of it, nor of others, ahead.
func TestSameAgain(t *testing.T) {
	lens := []uint8{0, 3, 3, 20, 1, 0, 19}
	table, words := made(t, lens), wordsOf(t, lens)
	r := source(9)
	for range 300 {
		bits := roughBits(r, r.IntN(24))
		wantDefinedGet(t, table, words, bits)
		symbol := r.IntN(len(lens))
		for _, o := range orders() {
			if words[symbol] == "" {
				o.wantNotPut(t, table, o.written(bits), symbol, api.ErrArg)
			} else {
				o.wantPut(t, table, o.written(bits), symbol, words[symbol])
			}
		}
		made(t, []uint8{1, 1})
		wantNoTable(t, []uint8{1, 1, 1}, api.ErrForm)
	}
}

// R2: calls at the same time do not know of one another; one table may be asked by many.
func TestAtTheSameTime(t *testing.T) {
	shared := made(t, comb())
	var all sync.WaitGroup
	for i := range 16 {
		all.Go(func() {
			r := source(uint64(100 + i))
			lens := full(r, 2+r.IntN(40), 3)
			own := made(t, lens)
			for range 30 {
				for _, o := range orders() {
					w := o.writer()
					a, b := r.IntN(len(lens)), r.IntN(longest+1)
					o.put(own, w, a)
					o.put(shared, w, b)
					back := o.reader(w.Bytes())
					if x, e := o.get(own, back); x != a || e != api.OK {
						t.Errorf("Get%s = %d, %v, want %d", o.name, x, e, a)
					}
					if x, e := o.get(shared, back); x != b || e != api.OK {
						t.Errorf("Get%s = %d, %v, want %d", o.name, x, e, b)
					}
				}
			}
		})
	}
	all.Wait()
}
