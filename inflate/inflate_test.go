package inflate_test

import (
	"bytes"
	"compress/flate"
	"io"
	"math"
	"slices"
	"strings"
	"sync"
	"testing"

	"presswork/api"
	"presswork/inflate"
)

// short is bytes as a failure tells them.
func short(b []byte) []byte { return b[:min(len(b), 200)] }

// wantKept asks for the first keep bytes of what a stream says, how many it says, and how many bytes it has.
func wantKept(t *testing.T, b []byte, keep int, said []byte, used int) {
	t.Helper()
	f, e := inflate.Inflate(b, keep)
	if e != api.OK || f.Size != len(said) || f.Used != used || f.Wrong || !bytes.Equal(f.Bytes, said[:min(keep, len(said))]) {
		t.Fatalf("Inflate(%d: %x, %d) = %d: %x, %d, %d, %v, %v, want %d: %x, %d", len(b), short(b), keep,
			len(f.Bytes), short(f.Bytes), f.Size, f.Used, f.Wrong, e, len(said), short(said), used)
	}
}

// wantSaid asks for what a stream says, whatever is kept.
func wantSaid(t *testing.T, b []byte, said []byte, used int) {
	t.Helper()
	n := len(said)
	for _, keep := range []int{0, 1, n / 2, n - 1, n, n + 1, math.MaxInt} {
		wantKept(t, b, max(keep, 0), said, used)
	}
}

// wantError asks for that error, and nothing beside it.
func wantError(t *testing.T, b []byte, keep int, want api.Errno) {
	t.Helper()
	f, e := inflate.Inflate(b, keep)
	if e != want || len(f.Bytes) != 0 || f.Size != 0 || f.Used != 0 || f.Wrong {
		t.Fatalf("Inflate(%d: %x, %d) = %x, %d, %d, %v, %v, want %v", len(b), short(b), keep,
			short(f.Bytes), f.Size, f.Used, f.Wrong, e, want)
	}
}

// wantNone asks that no stream begins with these bytes, whatever is kept.
func wantNone(t *testing.T, b []byte) {
	t.Helper()
	for _, keep := range []int{0, 1, 9, math.MaxInt} {
		wantError(t, b, keep, api.ErrForm)
	}
	wantError(t, b, -1, api.ErrArg)
}

// wantStream asks that a stream says what was put in, whatever stands behind its bits and its bytes, and that this is what the test's own reader says of it.
func wantStream(t *testing.T, w *writer) {
	t.Helper()
	bits := w.bits.String()
	b := packed(bits)
	if said, used, ok := defined(b); !ok || !bytes.Equal(said, w.said) || used != len(b) {
		t.Fatalf("the test's own reader of %x: %x, %d, %v, want %x, %d", short(b), short(said), used, ok, short(w.said), len(b))
	}
	wantSaid(t, b, w.said, len(b))
	for _, behind := range []string{"1", strings.Repeat("1", 40), strings.Repeat("0", 90), "0110100101101011010"} {
		wantKept(t, packed(bits+behind), len(w.said), w.said, len(b))
	}
}

// wantNoStream asks that no stream begins with what was put together, whatever stands behind.
func wantNoStream(t *testing.T, w *writer) {
	t.Helper()
	bits := w.bits.String()
	for _, behind := range []string{"", strings.Repeat("0", 400), strings.Repeat("1", 400), strings.Repeat("10", 400)} {
		b := packed(bits + behind)
		if said, used, ok := defined(b); ok {
			t.Fatalf("the test's own reader of %x: %x, %d", short(b), short(said), used)
		}
		wantNone(t, b)
	}
}

// wantDefined holds Inflate against what the chapter's words say of bytes, and against what others read.
func wantDefined(t *testing.T, b []byte) bool {
	t.Helper()
	said, used, ok := defined(b)
	others, othersUsed, othersOk := readByOthers(b)
	if ok != othersOk || !bytes.Equal(said, others) || used != othersUsed {
		t.Fatalf("%x: the test's own reader %x, %d, %v, others %x, %d, %v", short(b), short(said), used, ok, short(others), othersUsed, othersOk)
	}
	for _, keep := range []int{0, len(said) / 2, math.MaxInt} {
		if ok {
			wantKept(t, b, keep, said, used)
		} else {
			wantError(t, b, keep, api.ErrForm)
		}
	}
	return ok
}

// readByOthers is what the library reads of these bytes, and how many of them, if there is a stream.
func readByOthers(b []byte) ([]byte, int, bool) {
	r := bytes.NewReader(b)
	said, err := io.ReadAll(flate.NewReader(r))
	if err != nil {
		return nil, 0, false
	}
	return said, len(b) - r.Len(), true
}

// shifted is writers of which each has laid a block that is not the last one, and says nothing or a few bytes; the next block begins at each bit of a byte.
func shifted() []*writer {
	var l []*writer
	for i := range 8 {
		w := &writer{}
		w.fixed(false, slices.Repeat([]tok{byteTok(200)}, i)...) // 10 bits, and 9 for each byte
		l = append(l, w)
	}
	return l
}

// P10.1: the chapter's examples.
func TestExamples(t *testing.T) {
	wantKept(t, []byte{1, 2, 0, 0xfd, 0xff, 'a', 'b'}, 9, []byte("ab"), 7)
	wantKept(t, []byte{3, 0}, 9, nil, 2)
	wantError(t, []byte{7}, 9, api.ErrForm)
	wantError(t, []byte{1, 2, 0, 0xfd, 0xfe, 'a', 'b'}, 9, api.ErrForm)
	wantKept(t, []byte{1, 2, 0, 0xfd, 0xff, 'a', 'b', 'c'}, 1, []byte("ab"), 7)
	wantError(t, nil, -1, api.ErrArg)
	wantNone(t, nil)
	wantNone(t, []byte{})
	wantKept(t, []byte{0x4b, 4, 0}, 9, []byte("a"), 3) // of the chapter of gzip files
}

// P10.1: streams that are written out bit by bit.
func TestBitByBit(t *testing.T) {
	for _, x := range []struct {
		bits, said string
	}{
		{"1" + "10" + "10010001" + "0000000", "a"},
		{"1" + "10" + "10010001" + "0000001" + "00000" + "0000000", "aaaa"},
		{"1" + "10" + "10010001" + "10010010" + "0000010" + "00001" + "0000000", "abababab"[:6]},
		{"1" + "10" + "10010001" + "0001001" + "1" + "00000" + "0000000", strings.Repeat("a", 13)},
		{"0" + "10" + "0000000" + "1" + "10" + "110010000" + "0000000", "\x90"},
		{"0" + "00" + "11011" + number(1, 16) + number(0xfffe, 16) + number('x', 8) + "1" + "10" + "0000000", "x"},
	} {
		b := packed(x.bits)
		wantSaid(t, b, []byte(x.said), len(b))
		wantDefined(t, b)
	}
}

// someBlock lays a block of that kind that says something of its own.
func (w *writer) someBlock(last bool, kind int) {
	mark := byte('a' + len(w.said)%26)
	switch kind {
	case 0:
		w.stored(last, "10", []byte{mark, 'S', 'T'})
	case 1:
		w.fixed(last, byteTok(mark), byteTok('F'), repetition(5, 2))
	case 2:
		first := with(259, map[int]uint8{int(mark): 2, 'D': 2, 256: 2, 258: 2})
		w.dynamic(last, first, row{0, 1, 1}, byteTok('D'), byteTok(mark), tok{symbol: 258, other: 1}, byteTok(mark))
	default:
		w.begin(last, kind)
	}
}

// eachRow goes through all rows of n numbers below most.
func eachRow(n, most int, do func(l []int)) {
	l := make([]int, n)
	for {
		do(l)
		i := n - 1
		for i >= 0 && l[i] == most-1 {
			l[i] = 0
			i--
		}
		if i < 0 {
			return
		}
		l[i]++
	}
}

// P10.1: blocks of each kind, one behind the other in any order, of which just the last one is the last; without it there is no stream, nor where one is of kind 3.
func TestOrders(t *testing.T) {
	for n := 1; n <= 4; n++ {
		eachRow(n, 3, func(kinds []int) {
			w, open := &writer{}, &writer{}
			for i, kind := range kinds {
				w.someBlock(i == n-1, kind)
				open.someBlock(false, kind)
			}
			wantStream(t, w)
			wantNone(t, packed(open.bits.String()))
			w.someBlock(true, 0) // behind the last one: it plays no part
			b := packed(w.bits.String())
			said, used, _ := defined(b)
			wantKept(t, b, math.MaxInt, said, used)
		})
	}
	for n := 1; n <= 3; n++ {
		eachRow(n, 3, func(kinds []int) {
			for bad := range kinds {
				w := &writer{}
				for i, kind := range kinds[:bad+1] {
					if i == bad {
						kind = 3
					}
					w.someBlock(i == n-1, kind)
				}
				wantNoStream(t, w)
			}
		})
	}
}

// P10.1: a block of kind 3 at any bit of a byte, the last one or not.
func TestKindThree(t *testing.T) {
	for _, last := range []bool{false, true} {
		w := &writer{}
		w.begin(last, 3)
		wantNoStream(t, w)
		for _, w := range shifted() {
			w.begin(last, 3)
			wantNoStream(t, w)
		}
	}
	for v := range 256 {
		if v>>1&3 == 3 {
			wantNone(t, []byte{byte(v), 0, 0, 0xff, 0xff, 0})
		}
	}
}

// P10.1: stored blocks of some sizes, at any bit of a byte, with any bits up to the byte's end, the last one or not.
func TestStored(t *testing.T) {
	r := source(1)
	for _, n := range []int{0, 1, 2, 255, 256, 257, 1000} {
		for _, pad := range []string{"0", "1", "10", "01", "1000000", "0000001"} {
			for _, w := range shifted() {
				w.stored(false, pad, roughBytes(r, n))
				w.stored(true, pad, roughBytes(r, n))
				wantStream(t, w)
			}
		}
	}
	for at := range 8 {
		for bits := range 1 << 7 {
			w := shifted()[at]
			w.stored(true, number(bits, 7), []byte{1})
			wantKept(t, packed(w.bits.String()), 99, w.said, w.bits.Len()/8)
		}
	}
}

// P10.1: stored blocks of the most bytes.
func TestGreatStored(t *testing.T) {
	r := source(2)
	for _, n := range []int{32767, 32768, 32769, 65534, 65535} {
		w := shifted()[r.IntN(8)]
		w.stored(false, "1", roughBytes(r, n))
		w.fixed(false, repetition(258, 32767))
		w.stored(true, "0", roughBytes(r, n))
		b := packed(w.bits.String())
		wantSaid(t, b, w.said, len(b))
		wantNone(t, b[:len(b)-1])
		wantNone(t, b[:len(b)-n])
	}
}

// P10.1: the second number of a stored block is 65535 less the first one, and no other.
func TestStoredTurned(t *testing.T) {
	for _, n := range []int{0, 1, 2, 300, 65535} {
		good := 65535 - n
		others := []int{good, n, 0, 65535, good + 1, good - 1, 65536 - n}
		for bit := range 16 {
			others = append(others, good^1<<bit)
		}
		for _, second := range others {
			w := shifted()[n%8]
			w.begin(true, 0)
			w.toByteEnd("0")
			w.bits.WriteString(number(n, 16) + number(second, 16))
			b := append(packed(w.bits.String()), make([]byte, n)...)
			if second&0xffff == good {
				wantKept(t, b, 0, make([]byte, len(w.said)+n), len(b))
			} else {
				wantNone(t, b)
			}
		}
	}
}

// P10.1: each byte by the fixed codes, alone and behind the others.
func TestFixedBytes(t *testing.T) {
	all := &writer{}
	var toks []tok
	for v := range 256 {
		toks = append(toks, byteTok(byte(v)))
		w := &writer{}
		w.fixed(true, toks[v])
		wantStream(t, w)
		if !bytes.Equal(w.said, []byte{byte(v)}) {
			t.Fatalf("%d: %x", v, w.said)
		}
	}
	all.fixed(true, toks...)
	wantStream(t, all)
}

// P10.1: each symbol of lengths, and of distances, by the fixed codes, with its least and its greatest bits more, where the distance reaches just to the first byte; and, one byte less ahead, where it reaches ahead of it.
func TestFixedRepetitions(t *testing.T) {
	r := source(3)
	wantRepetition := func(symbol, extra, other, more int) {
		dist := leastDistance[other] + more
		for _, ahead := range []int{dist, dist + 1, dist - 1} {
			w := &writer{}
			w.stored(false, "0", roughBytes(r, ahead))
			w.fixed(true, tok{symbol, extra, other, more})
			b := packed(w.bits.String())
			if ahead < dist {
				wantNone(t, b)
				continue
			}
			wantSaid(t, b, w.said, len(b))
			if n := leastLength[symbol-257] + extra; len(w.said) != ahead+n {
				t.Fatalf("%d, not %d and %d", len(w.said), ahead, n)
			}
		}
	}
	for symbol := 257; symbol <= 285; symbol++ {
		for _, extra := range []int{0, 1<<lengthBits[symbol-257] - 1} {
			for _, other := range []int{0, 1, 9, 18} {
				wantRepetition(symbol, extra, other, 0)
			}
		}
	}
	for other := range 30 {
		for _, more := range []int{0, 1<<distanceBits[other] - 1} {
			for _, symbol := range []int{257, 271, 285} {
				wantRepetition(symbol, 0, other, more)
			}
		}
	}
}

// P10.1: each length and each distance, by the fixed codes.
func TestEachNumber(t *testing.T) {
	r := source(4)
	w := &writer{}
	w.stored(false, "0", roughBytes(r, 32768))
	var toks []tok
	for n := 3; n <= 258; n++ {
		toks = append(toks, repetition(n, 1+r.IntN(32768)))
	}
	for dist := 1; dist <= 32768; dist += 1 + r.IntN(5) {
		toks = append(toks, repetition(3, dist))
	}
	w.fixed(true, toks...)
	b := packed(w.bits.String())
	wantKept(t, b, math.MaxInt, w.said, len(b))
}

// P10.1: the symbols 286 and 287, and 30 and 31, of the fixed codes have words, but are none, whatever stands behind.
func TestSymbolsThatAreNone(t *testing.T) {
	for _, w := range shifted() {
		ahead := w.bits.String()
		for _, bad := range []tok{{symbol: 286}, {symbol: 287}, {symbol: 257, other: 30}, {symbol: 257, other: 31}, {symbol: 285, other: 30}, {symbol: 264, other: 31}} {
			for _, last := range []bool{false, true} {
				w := &writer{}
				w.bits.WriteString(ahead)
				w.fixed(last, append(byteToks("abcdefgh"), bad)...)
				wantNoStream(t, w)
			}
		}
	}
	begin := "1" + "10" + "10010001" // an a
	for _, bits := range []string{"11000110", "11000111", "0000001" + "11110", "0000001" + "11111"} {
		for _, behind := range []string{"", "00000" + "0000000", "0000000", strings.Repeat("1", 70)} {
			wantNone(t, packed(begin+bits+behind))
		}
	}
}

// someFirst is a code of a, b, the block's end, and lengths of 3 and 258 bytes.
func someFirst() row {
	return with(286, map[int]uint8{'a': 2, 'b': 2, 256: 2, 257: 3, 285: 3})
}

// P10.1: dynamic blocks whose code of distances is none, one word, or full: what they say without lengths, with lengths where there is a word, and that there is no stream where there is none.
func TestDynamicDistances(t *testing.T) {
	text := byteToks("abba")
	for n := 1; n <= 30; n++ {
		w := &writer{}
		w.dynamic(true, someFirst(), make(row, n), text...)
		wantStream(t, w)
		for _, symbol := range []int{257, 285} {
			w := &writer{}
			w.dynamic(true, someFirst(), make(row, n), append(text, tok{symbol: symbol})...)
			wantNoStream(t, w)
		}
		for symbol := range n {
			w := &writer{}
			w.stored(false, "0", make([]byte, leastDistance[symbol]))
			w.dynamic(true, someFirst(), with(n, map[int]uint8{symbol: 1}), append(text, tok{symbol: 285, other: symbol}, byteTok('b'))...)
			b := packed(w.bits.String())
			wantSaid(t, b, w.said, len(b))
		}
	}
	for _, other := range []row{{1}, {0, 1}, {0, 0, 0, 1}, with(30, map[int]uint8{2: 1})} {
		w := &writer{}
		w.dynamic(true, someFirst(), other, text...)
		wantStream(t, w)
		w = &writer{}
		w.begin(true, 2)
		w.bits.WriteString(headOf(someFirst(), other))
		w.toks(someFirst(), nil, append(text, tok{symbol: 257}))
		w.bits.WriteString("1") // begins no word
		for _, behind := range []string{"", "1", "0", strings.Repeat("0", 99), strings.Repeat("1", 99)} {
			wantNone(t, packed(w.bits.String()+behind))
		}
	}
	for _, other := range []row{{1, 1}, {0, 1, 0, 1}, {1, 2, 2}, {2, 2, 2, 2}, {0, 3, 3, 2, 1}} {
		w := &writer{}
		var toks []tok
		for symbol, n := range other {
			if n > 0 {
				toks = append(toks, tok{symbol: 257, other: symbol})
			}
		}
		w.dynamic(true, someFirst(), other, append(text, toks...)...)
		wantStream(t, w)
	}
}

// P10.1: a first code of one word alone, that of the block's end: the other bit begins no word.
func TestNoWord(t *testing.T) {
	for n := 257; n <= 286; n++ {
		for _, other := range []row{{0}, {1}, {1, 1}, make(row, 30)} {
			first := with(n, map[int]uint8{256: 1})
			w := &writer{}
			w.dynamic(true, first, other)
			wantStream(t, w)
			w = &writer{}
			w.begin(true, 2)
			w.bits.WriteString(headOf(first, other) + "1")
			wantNoStream(t, w)
			wantNone(t, packed(w.bits.String()+"0"))
		}
	}
}

// P10.1: heads that are none, whatever stands behind: lengths that may not be, and signs that are wrong.
func TestHeadsThatAreNone(t *testing.T) {
	good := someFirst()
	chain := slices.Concat(row{1, 2, 3, 4, 5, 6, 7, 8, 9, 10, 11, 12, 13, 14, 15}, make(row, 241), row{15})
	w := &writer{}
	w.dynamic(true, chain, row{0}, byteTok(0), byteTok(14), byteTok(7))
	wantStream(t, w)
	for _, x := range []struct{ first, other row }{
		{make(row, 257), row{0}},
		{with(257, map[int]uint8{0: 1}), row{0}},
		{with(257, map[int]uint8{0: 1, 1: 1}), row{0}},
		{with(257, map[int]uint8{256: 2}), row{0}},
		{with(257, map[int]uint8{0: 1, 256: 2}), row{0}},
		{with(257, map[int]uint8{0: 1, 1: 1, 256: 1}), row{0}},
		{with(257, map[int]uint8{0: 1, 1: 1, 256: 15}), row{0}},
		{slices.Concat(chain[:256], row{14}), row{0}},
		{append(slices.Clone(good), 0), row{0}},
		{append(slices.Clone(good), 0, 0), row{0}},
		{good, make(row, 31)},
		{good, make(row, 32)},
		{good, row{2}},
		{good, row{15}},
		{good, row{1, 2}},
		{good, row{1, 1, 1}},
		{good, row{1, 1, 15}},
	} {
		w := &writer{}
		w.begin(true, 2)
		w.bits.WriteString(headOf(x.first, x.other))
		w.toks(good, row{1}, []tok{byteTok('a'), {symbol: 256}})
		wantNoStream(t, w)
	}
	for _, signs := range []string{
		strings.Repeat("000", 19),                         // no sign has a word
		"100" + strings.Repeat("000", 18),                 // one alone
		"100100100" + strings.Repeat("000", 16),           // over
		"100010" + strings.Repeat("000", 17),              // under
		"100000000100" + strings.Repeat("000", 15) + "10", // the first sign is a 16
	} {
		w := &writer{}
		w.bits.WriteString("1" + number(2, 2) + number(0, 5) + number(0, 5) + number(15, 4) + signs)
		wantNoStream(t, w)
	}
}

// P10.1: a head that says lengths by repetitions, also from the first ones into the others, and more than there are.
func TestHeadOfRepetitions(t *testing.T) {
	begin := func(first, other int) string {
		told := "010" + "000" + "010" + strings.Repeat("000", 14) + "100" // 10 is the word of 16, 11 of 18, 0 of 1
		return "1" + number(2, 2) + number(first-257, 5) + number(other-1, 5) + number(14, 4) + told
	}
	lens := "0" + "11" + number(127, 7) + "11" + number(106, 7) + "0" // 1, 255 times 0, 1
	b := packed(begin(257, 2) + lens + "00" + "001")
	wantSaid(t, b, []byte{0, 0}, len(b))
	b = packed(begin(266, 3) + lens + "11" + number(1, 7) + "01") // 12 times 0, 3 of which are the others
	wantSaid(t, b, []byte{0}, len(b))
	for extra := range 4 {
		wantNone(t, packed(begin(257, 2)+lens+"10"+number(extra, 2)+strings.Repeat("01", 9))) // 3 lengths or more, where 2 are left
	}
}

// P10.1: repetitions that overlap with what they say: each distance below each length.
func TestOverlaps(t *testing.T) {
	for dist := 1; dist <= 30; dist++ {
		w := &writer{}
		for i := range dist {
			w.stored(false, "0", []byte{byte('A' + i)})
		}
		w.fixed(false, repetition(3, dist), repetition(dist+3, dist), repetition(258, dist))
		w.fixed(true, repetition(258, dist), repetition(100+dist, dist+1), repetition(5, dist))
		wantStream(t, w)
		for i := range w.said[:dist+3+dist+3+258+258] {
			if w.said[i] != byte('A'+i%dist) {
				t.Fatalf("%d: %s", dist, w.said)
			}
		}
	}
}

// thirty is a full code of 30 distances.
func thirty() row { return slices.Concat(like(4, 2), like(5, 28)) }

// P10.1: a repetition that reaches ahead of the first byte, in a fixed block and in a dynamic one, with nothing ahead and with something; and one that reaches just to it.
func TestAhead(t *testing.T) {
	for n := range 40 {
		text := byteToks(strings.Repeat("ab", n)[:n])
		for dist := 1; dist <= 45; dist++ {
			fixed, dynamic := &writer{}, &writer{}
			fixed.fixed(true, append(text, repetition(3, dist))...)
			dynamic.dynamic(true, someFirst(), thirty(), append(text, repetition(258, dist))...)
			for _, w := range []*writer{fixed, dynamic} {
				b := packed(w.bits.String())
				for _, keep := range []int{0, 999} {
					if dist > n {
						wantError(t, b, keep, api.ErrForm)
					} else {
						wantKept(t, b, keep, w.said, len(b))
					}
				}
			}
		}
	}
}

// P10.1, P10.2: a repetition reaches into earlier blocks, of each kind, also to bytes that are not kept, and past what is kept.
func TestReachesBack(t *testing.T) {
	r := source(5)
	for _, size := range []int{32768, 40000, 65535} {
		w := &writer{}
		w.stored(false, "0", roughBytes(r, size))
		w.fixed(false, repetition(258, 32768), repetition(3, 32768), repetition(258, 300))
		w.dynamic(false, someFirst(), thirty(), repetition(258, 32768), repetition(258, 1), repetition(3, 24577))
		w.stored(false, "0", roughBytes(r, 700))
		w.fixed(true, repetition(258, 700), repetition(258, 32768), repetition(31, 16384))
		b := packed(w.bits.String())
		for _, keep := range []int{0, 1, 10, 32767, 32768, 32769, size, size + 1, size + 258, size + 300, len(w.said) - 1, len(w.said), len(w.said) + 1, math.MaxInt} {
			wantKept(t, b, keep, w.said, len(b))
		}
	}
	w := &writer{}
	w.stored(false, "0", make([]byte, 32767))
	w.fixed(true, repetition(3, 32768))
	wantNoStream(t, w)
}

// P10.1, R5: keep below 0 is ErrArg, whatever the bytes are.
func TestKeepBelowZero(t *testing.T) {
	for _, keep := range []int{-1, -2, -9, math.MinInt32, math.MinInt} {
		for _, b := range [][]byte{nil, {}, {7}, {3, 0}, {1, 2, 0, 0xfd, 0xff, 'a', 'b'}, {1, 2, 0, 0xfd, 0xfe}, bytes.Repeat([]byte{0xff}, 99)} {
			wantError(t, b, keep, api.ErrArg)
		}
	}
}

// P10.1, P10.2: streams that say far more than is kept, and keeps that end within a repetition.
func TestFarMore(t *testing.T) {
	fixed := &writer{}
	fixed.fixed(true, append(byteToks("xyz"), slices.Repeat([]tok{repetition(258, 3)}, 8000)...)...)
	one := &writer{}
	one.dynamic(true, with(286, map[int]uint8{'a': 2, 256: 2, 285: 1}), row{1}, append(byteToks("a"), slices.Repeat([]tok{repetition(258, 1)}, 20000)...)...)
	for _, w := range []*writer{fixed, one} {
		b := packed(w.bits.String())
		if len(w.said) < 100*len(b) {
			t.Fatalf("%d bytes say %d", len(b), len(w.said))
		}
		for _, keep := range []int{0, 1, 2, 3, 4, 257, 258, 259, 1000, 32768, 32769, 100001, len(w.said) - 1, len(w.said), len(w.said) + 1, math.MaxInt} {
			wantKept(t, b, keep, w.said, len(b))
		}
		wantError(t, b[:len(b)-1], 0, api.ErrForm)
		wantError(t, b[:len(b)-1], 1000, api.ErrForm)
	}
}

// P10.2: what is kept is the same for any keep, up to it, also one that ends within a token.
func TestAnyKeep(t *testing.T) {
	r := source(6)
	for range 300 {
		w := roughStream(r)
		b := packed(w.bits.String())
		step := 1 + len(w.said)/20
		for keep := r.IntN(step); keep < len(w.said)+2; keep += step {
			wantKept(t, b, keep, w.said, len(b))
		}
	}
	w := &writer{}
	w.stored(false, "0", []byte("abcdefg"))
	w.fixed(true, repetition(9, 2), byteTok('x'), repetition(30, 17), repetition(3, 40))
	b := packed(w.bits.String())
	for keep := range len(w.said) + 3 {
		wantKept(t, b, keep, w.said, len(b))
	}
}

// P10.1, P10.2: many streams, put together block by block, of all kinds and all codes that may be, say what was put in; with a stored block ahead of them, that, too.
func TestRoughStreams(t *testing.T) {
	r := source(7)
	great := 0
	for range 500 {
		w := roughStream(r)
		wantStream(t, w)
		wantDefined(t, packed(w.bits.String()))
		great = max(great, len(w.said))
		for range 2 {
			ahead := &writer{}
			ahead.stored(false, roughBits(r, 5), roughBytes(r, r.IntN(50)))
			ahead.bits.WriteString(w.bits.String())
			ahead.said = append(ahead.said, w.said...)
			w = ahead
			b := packed(w.bits.String())
			wantKept(t, b, math.MaxInt, w.said, len(b))
		}
	}
	if great < 33000 {
		t.Errorf("at most %d bytes are said", great)
	}
}

// P10.2: a stream's beginnings are no streams, wherever it is cut: blocks of each kind, shifted, so that each bit of theirs is the last one of a byte once; and rough streams.
func TestCuts(t *testing.T) {
	for kind := range 3 {
		for _, w := range shifted() {
			w.someBlock(true, kind)
			b := packed(w.bits.String())
			for n := range len(b) {
				wantNone(t, b[:n])
			}
			wantSaid(t, b, w.said, len(b))
		}
	}
	r := source(8)
	for range 150 {
		w := roughStream(r)
		b := packed(w.bits.String())
		for i := range min(len(b), 40) {
			n := r.IntN(len(b))
			if i < 4 {
				n = len(b) - 1 - i
			}
			wantError(t, b[:max(n, 0)], len(w.said)*(i%2), api.ErrForm)
		}
	}
}

// P10.1: bytes and bits behind the last block play no part, nor are they counted.
func TestBehind(t *testing.T) {
	r := source(9)
	for range 200 {
		w := roughStream(r)
		bits := w.bits.String()
		used := len(packed(bits))
		for range 8 {
			b := packed(bits + roughBits(r, r.IntN(60)))
			wantKept(t, append(b, roughBytes(r, r.IntN(30))...), r.IntN(2*len(w.said)+1), w.said, used)
		}
	}
}

// P10.1, R1: rough bytes are what the chapter's words say of them.
func TestRoughBytes(t *testing.T) {
	r := source(10)
	streams := 0
	for range 5000 {
		b := packed(roughBits(r, r.IntN(400)))
		if len(b) > 0 {
			b[0] = b[0]&^6 | byte(r.IntN(3)<<1)
		}
		if wantDefined(t, b) {
			streams++
		}
	}
	if streams < 20 {
		t.Errorf("%d streams only", streams)
	}
}

// P10.1: rough bits behind what begins a block of symbols, with so many bytes ahead that most distances may be.
func TestRoughSymbols(t *testing.T) {
	r := source(11)
	streams := 0
	for i := range 400 {
		w := &writer{}
		w.stored(false, "0", roughBytes(r, []int{5, 500, 32768}[i%3]))
		w.begin(r.IntN(4) > 0, 1+i%2)
		if i%2 == 1 {
			w.bits.WriteString(headOf(roughFirst(r), roughOther(r)))
		}
		w.bits.WriteString(roughBits(r, 3000))
		if wantDefined(t, packed(w.bits.String())) {
			streams++
		}
	}
	if streams < 20 {
		t.Errorf("%d streams only", streams)
	}
}

// P10.1: streams with some bits turned are what the chapter's words say of them.
func TestTurnedBits(t *testing.T) {
	r := source(12)
	streams := 0
	for range 2000 {
		w := roughStream(r)
		if w.bits.Len() > 20000 {
			continue
		}
		b := packed(w.bits.String() + roughBits(r, r.IntN(300)))
		for range 1 + r.IntN(3) {
			i := r.IntN(len(b))
			b[i] ^= 1 << r.IntN(8)
		}
		if wantDefined(t, b) {
			streams++
		}
	}
	if streams < 100 {
		t.Errorf("%d streams only", streams)
	}
}

// P10.1: each byte alone, and many rows of two and of three.
func TestFewBytes(t *testing.T) {
	for v := range 1 << 8 {
		wantDefined(t, []byte{byte(v)})
	}
	for v := 0; v < 1<<16; v += 5 {
		b := []byte{byte(v), byte(v >> 8)}
		said, used, ok := defined(b)
		if f, e := inflate.Inflate(b, 9); (e == api.OK) != ok || f.Used != used || !bytes.Equal(f.Bytes, said) {
			t.Fatalf("%x: %v, %v", b, f, e)
		}
	}
	r := source(13)
	for range 2000 {
		wantDefined(t, packed("1"+number(1, 2)+roughBits(r, 21)))
	}
}

// P10.1: what others write is read.
func TestWrittenByOthers(t *testing.T) {
	r := source(14)
	for i := range 120 {
		text := make([]byte, r.IntN(1+r.IntN(200000)))
		kinds := 1 + r.IntN(256)
		for j := range text {
			text[j] = byte(r.IntN(1 + r.IntN(kinds)))
			if back := 1 + r.IntN(40000); r.IntN(3) == 0 && back < j {
				copy(text[j:], text[j-back:j-back+r.IntN(min(300, back))])
			}
		}
		var b bytes.Buffer
		w, err := flate.NewWriter(&b, i%12-2)
		if err != nil {
			t.Fatal(err)
		}
		w.Write(text[:len(text)/2])
		if i%3 == 0 {
			w.Flush()
		}
		w.Write(text[len(text)/2:])
		w.Close()
		wantKept(t, b.Bytes(), math.MaxInt, text, b.Len())
		wantKept(t, append(b.Bytes(), 1, 2, 3), len(text)/2, text, b.Len())
	}
}

// P10.1: many blocks that say nothing, of each kind.
func TestManyBlocks(t *testing.T) {
	for kind := range 3 {
		w := &writer{}
		for range 3000 {
			switch kind {
			case 0:
				w.stored(false, "1", nil)
			case 1:
				w.fixed(false)
			case 2:
				w.dynamic(false, with(257, map[int]uint8{256: 1}), row{0})
			}
		}
		wantNone(t, packed(w.bits.String()))
		w.fixed(true, byteTok('z'))
		b := packed(w.bits.String())
		wantKept(t, b, 9, []byte("z"), len(b))
	}
}

// R3: bytes that are handed in are neither changed, with the room behind their end, which plays no part, nor kept; what is handed out is new memory.
func TestMemory(t *testing.T) {
	r := source(15)
	for range 200 {
		w := roughStream(r)
		b := packed(w.bits.String())
		room := slices.Concat(b, []byte{9, 8, 7})
		same := slices.Clone(room)
		in := room[:len(b)]
		first, e1 := inflate.Inflate(in, math.MaxInt)
		second, e2 := inflate.Inflate(in, len(w.said)/2)
		if e1 != api.OK || e2 != api.OK {
			t.Fatal(e1, e2)
		}
		inflate.Inflate(room[:len(b)-1], 99)
		if !bytes.Equal(room, same) {
			t.Fatalf("%x became %x", same, room)
		}
		clear(room)
		if !bytes.Equal(first.Bytes, w.said) || !bytes.Equal(second.Bytes, w.said[:len(w.said)/2]) {
			t.Fatal("an answer hangs on the bytes that were handed in")
		}
		for i := range first.Bytes[:cap(first.Bytes)] {
			first.Bytes[:cap(first.Bytes)][i] = 77
		}
		if !bytes.Equal(second.Bytes, w.said[:len(w.said)/2]) {
			t.Fatal("two answers share memory")
		}
		wantKept(t, b, math.MaxInt, w.said, len(b))
	}
	b := []byte{1, 2, 0, 0xfd, 0xff, 'a', 'b'}
	for n := range b { // the missing bytes are there, behind the end
		wantNone(t, b[:n])
	}
}

// R2: the same bytes have the same answer again, from many goroutines at once.
func TestSameAgain(t *testing.T) {
	r := source(16)
	type asked struct {
		b, said []byte
		keep    int
	}
	var all []asked
	for range 60 {
		w := roughStream(r)
		all = append(all, asked{packed(w.bits.String()), w.said, r.IntN(len(w.said) + 2)})
	}
	var g sync.WaitGroup
	for range 8 {
		g.Go(func() {
			for _, x := range slices.Backward(slices.Concat(all, all)) {
				f, e := inflate.Inflate(x.b, x.keep)
				if e != api.OK || f.Size != len(x.said) || f.Used != len(x.b) || !bytes.Equal(f.Bytes, x.said[:min(x.keep, len(x.said))]) {
					t.Errorf("Inflate(%x, %d) = %x, %d, %d, %v", short(x.b), x.keep, short(f.Bytes), f.Size, f.Used, e)
				}
				if _, e := inflate.Inflate(x.b[:len(x.b)-1], x.keep); e != api.ErrForm {
					t.Error(e)
				}
				if _, e := inflate.Inflate(x.b, -1); e != api.ErrArg {
					t.Error(e)
				}
			}
		})
	}
	g.Wait()
}
