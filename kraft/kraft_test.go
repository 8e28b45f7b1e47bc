package kraft_test

import (
	"bytes"
	"math/big"
	"slices"
	"strconv"
	"strings"
	"sync"
	"testing"

	"presswork/api"
	"presswork/kraft"
)

const (
	most    = 512
	longest = 20
)

func wantClass(t *testing.T, lens []uint8, class kraft.Class) {
	t.Helper()
	if got, e := kraft.Classify(lens); got != class || e != api.OK {
		t.Errorf("Classify(%v) = %v, %v, want %v", lens, got, e, class)
	}
}

func wantWords(t *testing.T, lens []uint8, words ...uint32) {
	t.Helper()
	if got, e := kraft.Words(lens); !slices.Equal(got, words) || e != api.OK {
		t.Errorf("Words(%v) = %b, %v, want %b", lens, got, e, words)
	}
}

func wantSingle(t *testing.T, lens []uint8, single bool) {
	t.Helper()
	if got := kraft.Single(lens); got != single {
		t.Errorf("Single(%v) = %v", lens, got)
	}
}

// wantNoClass asks for ErrArg of both calls that answer errors, and for zeros beside it.
func wantNoClass(t *testing.T, lens []uint8) {
	t.Helper()
	if got, e := kraft.Classify(lens); got != 0 || e != api.ErrArg {
		t.Errorf("Classify(%v) = %v, %v, want 0, %v", lens, got, e, api.ErrArg)
	}
	wantNoWords(t, lens, api.ErrArg)
}

func wantNoWords(t *testing.T, lens []uint8, want api.Errno) {
	t.Helper()
	if got, e := kraft.Words(lens); len(got) != 0 || e != want {
		t.Errorf("Words(%v) = %b, %v, want none, %v", lens, got, e, want)
	}
}

// definedClass is the class by the chapter's definition: the weight is a sum of fractions.
func definedClass(lens []uint8) kraft.Class {
	sum, words := new(big.Rat), false
	for _, n := range lens {
		if n != 0 {
			sum.Add(sum, big.NewRat(1, 1<<n))
			words = true
		}
	}
	switch c := sum.Cmp(big.NewRat(1, 1)); {
	case !words:
		return kraft.None
	case c < 0:
		return kraft.Under
	case c > 0:
		return kraft.Over
	}
	return kraft.Full
}

// inOrder is the symbols that have words, those of fewer bits ahead, of as many by their symbols.
func inOrder(lens []uint8) []int {
	var l []int
	for symbol, n := range lens {
		if n != 0 {
			l = append(l, symbol)
		}
	}
	slices.SortStableFunc(l, func(a, b int) int { return int(lens[a]) - int(lens[b]) })
	return l
}

// plusOne is the row of bits, as a number, and 1.
func plusOne(t *testing.T, bits string) string {
	t.Helper()
	last := strings.LastIndexByte(bits, '0')
	if last < 0 {
		t.Fatalf("no number of as many bits is behind %s", bits)
	}
	return bits[:last] + "1" + strings.Repeat("0", len(bits)-last-1)
}

// definedBits is each symbol's word by the chapter's definition, as a text of bits; nothing of a symbol that has none.
func definedBits(t *testing.T, lens []uint8) []string {
	t.Helper()
	words := make([]string, len(lens))
	ahead := ""
	for _, symbol := range inOrder(lens) {
		bits := ""
		if ahead != "" {
			bits = plusOne(t, ahead)
		}
		bits += strings.Repeat("0", int(lens[symbol])-len(bits))
		words[symbol], ahead = bits, bits
	}
	return words
}

// wantDefined holds all three calls against the chapter's definitions.
func wantDefined(t *testing.T, lens []uint8) {
	t.Helper()
	class := definedClass(lens)
	wantClass(t, lens, class)
	wantSingle(t, lens, len(inOrder(lens)) == 1 && lens[inOrder(lens)[0]] == 1)
	if class == kraft.Over {
		wantNoWords(t, lens, api.ErrForm)
		return
	}
	words := make([]uint32, len(lens))
	for symbol, bits := range definedBits(t, lens) {
		if bits == "" {
			continue
		}
		v, err := strconv.ParseUint(bits, 2, 32)
		if err != nil {
			t.Fatal(err)
		}
		words[symbol] = uint32(v)
	}
	wantWords(t, lens, words...)
}

// told is each symbol's word as Words answers it, as a text of bits; nothing of a symbol that has none.
func told(t *testing.T, lens []uint8) []string {
	t.Helper()
	words, e := kraft.Words(lens)
	if e != api.OK || len(words) != len(lens) {
		t.Fatalf("Words(%v) = %b, %v", lens, words, e)
	}
	l := make([]string, len(lens))
	for symbol, n := range lens {
		if n == 0 {
			if words[symbol] != 0 {
				t.Errorf("Words(%v): symbol %d without a word: %b", lens, symbol, words[symbol])
			}
			continue
		}
		bits := strconv.FormatUint(uint64(words[symbol]), 2)
		if len(bits) > int(n) {
			t.Fatalf("Words(%v): symbol %d: %s", lens, symbol, bits)
		}
		l[symbol] = strings.Repeat("0", int(n)-len(bits)) + bits
	}
	return l
}

// rough is a row of numbers that look rough, the same in each run.
type rough uint64

func (r *rough) next(below int) int {
	*r = *r*6364136223846793005 + 1442695040888963407
	return int(uint64(*r>>33) % uint64(below))
}

// full is a full code of that many words, at least 2: words are split into two again and again.
func (r *rough) full(words int) []uint8 {
	l := []uint8{1, 1}
	for len(l) < words {
		i := r.next(len(l))
		if l[i] < longest {
			l[i]++
			l = append(l, l[i])
		}
	}
	return l
}

// deep is a full code of that many words, with words of 20 bits: mostly the longest word that can be split is.
func (r *rough) deep(words int) []uint8 {
	l := []uint8{1, 1}
	for len(l) < words {
		i := len(l) - 1
		if l[i] == longest || r.next(8) == 0 {
			i = r.next(len(l))
		}
		if l[i] < longest {
			l[i]++
			l = append(l, l[i])
		}
	}
	return l
}

// scattered lays these lengths at rough places of a row of that many, zeros between them.
func (r *rough) scattered(lens []uint8, size int) []uint8 {
	l := make([]uint8, size)
	copy(l, lens)
	for i := size - 1; i > 0; i-- {
		j := r.next(i + 1)
		l[i], l[j] = l[j], l[i]
	}
	return l
}

// comb is 1, 2, .. 20: a code that is one word of 20 bits below a full one.
func comb() []uint8 {
	var l []uint8
	for n := uint8(1); n <= longest; n++ {
		l = append(l, n)
	}
	return l
}

func like(n uint8, count int) []uint8 { return bytes.Repeat([]uint8{n}, count) }

func and(lens []uint8, more ...uint8) []uint8 { return slices.Concat(lens, more) }

// fullCodes are full codes of many kinds.
func fullCodes() [][]uint8 {
	seed := rough(1)
	l := [][]uint8{{1, 1}, {2, 1, 0, 2}, {1, 2, 2}, {3, 3, 2, 1}, and(comb(), longest)}
	for n := range uint8(9) {
		l = append(l, like(n+1, 2<<n))
	}
	for words := 2; words <= most; words += 1 + seed.next(30) {
		size := words + seed.next(most-words+1)
		l = append(l, seed.full(words), seed.scattered(seed.full(words), size), seed.scattered(seed.deep(words), size))
	}
	return append(l, seed.full(most), seed.deep(most))
}

// underCodes are the full ones, a word of each taken away, or made longer.
func underCodes() [][]uint8 {
	seed := rough(2)
	l := [][]uint8{comb()}
	for _, lens := range fullCodes() {
		i := inOrder(lens)[seed.next(len(inOrder(lens)))]
		fewer, longer := slices.Clone(lens), slices.Clone(lens)
		fewer[i] = 0
		l = append(l, fewer)
		if longer[i] < longest {
			longer[i]++
			l = append(l, longer)
		}
	}
	return l
}

// P4.1, P4.2, P4.3: the chapter's examples.
func TestExamples(t *testing.T) {
	wantClass(t, []uint8{2, 1, 0, 2}, kraft.Full)
	wantWords(t, []uint8{2, 1, 0, 2}, 0b10, 0, 0, 0b11)
	wantClass(t, []uint8{0, 0}, kraft.None)
	wantClass(t, []uint8{1}, kraft.Under)
	wantClass(t, []uint8{1, 1, 1}, kraft.Over)
	wantNoWords(t, []uint8{1, 1, 1}, api.ErrForm)
	wantNoWords(t, []uint8{21}, api.ErrArg)
	wantSingle(t, []uint8{0, 1}, true)
	wantSingle(t, []uint8{2}, false)
}

// P4.1: the classes are four, in the chapter's order, None the zero value.
func TestClassNumbers(t *testing.T) {
	if kraft.None != 0 || kraft.Under != 1 || kraft.Full != 2 || kraft.Over != 3 {
		t.Errorf("%d %d %d %d", kraft.None, kraft.Under, kraft.Full, kraft.Over)
	}
}

// P4.1, P4.3, R6: codes without words.
func TestNone(t *testing.T) {
	for _, lens := range [][]uint8{nil, {}, make([]uint8, 0, 8), {0}, {0, 0}, make([]uint8, most)} {
		wantClass(t, lens, kraft.None)
		wantWords(t, lens, make([]uint32, len(lens))...)
		wantSingle(t, lens, false)
	}
}

// P4.1, P4.2, P4.3: one word alone, of each length, at each of some places.
func TestOneWord(t *testing.T) {
	for n := uint8(1); n <= longest; n++ {
		for _, size := range []int{1, 2, 7, most} {
			for _, at := range []int{0, size / 2, size - 1} {
				lens := make([]uint8, size)
				lens[at] = n
				wantClass(t, lens, kraft.Under)
				wantSingle(t, lens, n == 1)
				wantWords(t, lens, make([]uint32, size)...)
			}
		}
	}
}

// P4.1: codes that are just full, and one word of 20 bits below or above that.
func TestJustFull(t *testing.T) {
	wantClass(t, comb(), kraft.Under)
	wantClass(t, and(comb(), longest), kraft.Full)
	wantClass(t, and(comb(), longest, longest), kraft.Over)
	for _, lens := range fullCodes() {
		wantClass(t, lens, kraft.Full)
		if len(lens) < most {
			wantClass(t, and(lens, longest), kraft.Over)
			wantNoWords(t, and(lens, longest), api.ErrForm)
		}
		if at := slices.Index(lens, longest); at >= 0 {
			less := slices.Clone(lens)
			less[at] = 0
			wantClass(t, less, kraft.Under)
		}
	}
}

// P4.1, P4.3: words of like length only: as many as can be, one fewer, one more.
func TestLikeLengths(t *testing.T) {
	for n := uint8(1); n <= longest; n++ {
		for _, count := range []int{1, 1<<n - 1, 1 << n, 1<<n + 1, most - 1, most} {
			if count > most {
				continue
			}
			lens := like(n, count)
			switch {
			case count < 1<<n:
				wantClass(t, lens, kraft.Under)
			case count == 1<<n:
				wantClass(t, lens, kraft.Full)
			default:
				wantClass(t, lens, kraft.Over)
				wantNoWords(t, lens, api.ErrForm)
				continue
			}
			words := make([]uint32, count)
			for i := range words {
				words[i] = uint32(i)
			}
			wantWords(t, lens, words...)
		}
	}
}

// P4.3: the words of the code that is one word of 20 bits below a full one, and of the full one.
func TestCombWords(t *testing.T) {
	var words []uint32
	for n := 1; n <= longest; n++ {
		words = append(words, 1<<n-2)
	}
	wantWords(t, comb(), words...)
	wantWords(t, and(comb(), longest), append(words, 1<<longest-1)...)
	down := and(comb(), longest)
	slices.Reverse(down)
	words = append(words[:longest-1:longest-1], 1<<longest-1, 1<<longest-2)
	slices.Reverse(words)
	wantWords(t, down, words...)
}

// P4.3: words that are known from elsewhere: DEFLATE's own code (RFC 1951, 3.2.6), and that of its example (3.2.2).
func TestKnownWords(t *testing.T) {
	wantWords(t, []uint8{3, 3, 3, 3, 3, 2, 4, 4}, 0b010, 0b011, 0b100, 0b101, 0b110, 0b00, 0b1110, 0b1111)
	fixed := slices.Concat(like(8, 144), like(9, 112), like(7, 24), like(8, 8))
	wantClass(t, fixed, kraft.Full)
	words, e := kraft.Words(fixed)
	if e != api.OK || len(words) != len(fixed) {
		t.Fatalf("%d words, %v", len(words), e)
	}
	for symbol, want := range map[int]uint32{
		0: 0b00110000, 143: 0b10111111, 144: 0b110010000, 255: 0b111111111,
		256: 0, 279: 0b0010111, 280: 0b11000000, 287: 0b11000111,
	} {
		if words[symbol] != want {
			t.Errorf("symbol %d: %b, want %b", symbol, words[symbol], want)
		}
	}
}

// P4.2: two words, one of them of 1 bit or both, are not single; zeros play no part.
func TestSingle(t *testing.T) {
	for _, lens := range [][]uint8{{1}, {1, 0}, {0, 1}, {0, 0, 1, 0}} {
		wantSingle(t, lens, true)
	}
	for _, lens := range [][]uint8{nil, {0}, {2}, {3}, {20}, {21}, {255}, {0, 2}, {1, 1}, {1, 0, 1}, {1, 2}, {2, 1}, {2, 2}, {1, 1, 1}, {1, 20}, {0, 0}, {1, 255}, {21, 1}} {
		wantSingle(t, lens, false)
	}
}

// P4.2: Single has no errors: it looks at each length, however many there are.
func TestSingleOfMany(t *testing.T) {
	for _, size := range []int{most, most + 1, 65536, 65537} {
		for _, at := range []int{0, size / 2, size - 1} {
			lens := make([]uint8, size)
			lens[at] = 1
			if !kraft.Single(lens) {
				t.Errorf("%d lengths, 1 at %d: not single", size, at)
			}
			lens[(at+1)%size] = 1
			if kraft.Single(lens) {
				t.Errorf("%d lengths, two of 1: single", size)
			}
		}
	}
	if kraft.Single(like(1, 257)) || kraft.Single(like(1, 65537)) {
		t.Error("many words of 1 bit: single")
	}
}

// P4.1, P4.3: lengths above 20, at any place, whatever stands beside them; ErrArg ahead of ErrForm.
func TestLengthsAbove(t *testing.T) {
	for n := 0; n < 256; n++ {
		for _, size := range []int{1, 3, most} {
			for _, at := range []int{0, size / 2, size - 1} {
				for _, beside := range []uint8{0, 1, 20} {
					lens := like(beside, size)
					lens[at] = uint8(n)
					if n > longest {
						wantNoClass(t, lens)
					} else {
						wantDefined(t, lens)
					}
				}
			}
		}
	}
}

// P4.1, P4.3: 512 lengths, and 513 and more, whatever they are; ErrArg ahead of ErrForm.
func TestManyLengths(t *testing.T) {
	seed := rough(3)
	for _, n := range []uint8{0, 1, 8, 9, 10, 20} {
		wantDefined(t, like(n, most-1))
		wantDefined(t, like(n, most))
		for _, size := range []int{most + 1, most + 2, 1024, 65536, 1<<20 + 1} {
			wantNoClass(t, like(n, size))
		}
	}
	wantClass(t, seed.full(most), kraft.Full)
	wantNoClass(t, seed.full(most+1))
	wantNoClass(t, and(seed.full(most), 0))
	wantNoClass(t, and(like(1, most), 1))
	wantNoClass(t, and(like(0, most), 21))
}

// eachRow goes through all rows of that many lengths, none above the highest.
func eachRow(size int, highest uint8, do func(lens []uint8)) {
	lens := make([]uint8, size)
	for {
		do(lens)
		at := 0
		for at < size && lens[at] == highest {
			lens[at] = 0
			at++
		}
		if at == size {
			return
		}
		lens[at]++
	}
}

// P4.1, P4.2, P4.3: all short rows, by the chapter's definitions.
func TestAllShortRows(t *testing.T) {
	for size, highest := range []uint8{20, 20, 20, 20, 5, 4, 3} {
		classes := map[kraft.Class]bool{}
		eachRow(size, highest, func(lens []uint8) {
			wantDefined(t, lens)
			classes[definedClass(lens)] = true
		})
		if size > 2 && len(classes) != 4 {
			t.Errorf("%d lengths: classes %v", size, classes)
		}
	}
}

// P4.1, P4.2, P4.3: rough rows, by the chapter's definitions.
func TestRoughRows(t *testing.T) {
	seed := rough(4)
	for range 3000 {
		lens := make([]uint8, seed.next(most+1))
		lowest := seed.next(longest + 1)
		for i := range lens {
			if seed.next(3) != 0 {
				lens[i] = uint8(lowest + seed.next(longest-lowest+1))
			}
		}
		wantDefined(t, lens)
	}
}

// P4.1, P4.2, P4.3: full and under codes, by the chapter's definitions.
func TestDefined(t *testing.T) {
	for _, lens := range fullCodes() {
		wantDefined(t, lens)
	}
	for _, lens := range underCodes() {
		wantClass(t, lens, kraft.Under)
		wantDefined(t, lens)
	}
}

// P4.4: no word begins with another one's, held pair by pair.
func TestNoWordBeginsAnother(t *testing.T) {
	for _, lens := range slices.Concat(fullCodes(), underCodes()) {
		words := slices.DeleteFunc(told(t, lens), func(bits string) bool { return bits == "" })
		for i, a := range words {
			for j, b := range words {
				if i != j && strings.HasPrefix(a, b) {
					t.Fatalf("Words(%v): %s begins with %s", lens, a, b)
				}
			}
		}
	}
}

// P4.4: each row of 20 bits begins with just one word of a full code; with at most one of another, and some with none.
func TestEachRowOfBits(t *testing.T) {
	check := func(lens []uint8, full bool) {
		begins := make([]uint8, 1<<longest)
		for _, bits := range told(t, lens) {
			if bits == "" {
				continue
			}
			free := longest - len(bits)
			v, _ := strconv.ParseUint(bits, 2, 32)
			for row := range uint32(1) << free {
				begins[uint32(v)<<free|row]++
			}
		}
		if slices.Max(begins) != 1 || full != (slices.Min(begins) == 1) {
			t.Errorf("%v: rows of bits begin with %d to %d words", lens, slices.Min(begins), slices.Max(begins))
		}
	}
	for _, lens := range fullCodes() {
		check(lens, true)
	}
	for _, lens := range underCodes() {
		check(lens, false)
	}
}

// P4.4: words of like length rise with their symbols, one by one; of unlike ones, as bits, those of fewer bits stand ahead.
func TestWordsRise(t *testing.T) {
	for _, lens := range slices.Concat(fullCodes(), underCodes()) {
		words, e := kraft.Words(lens)
		if e != api.OK {
			t.Fatal(e)
		}
		order := inOrder(lens)
		for i := 1; i < len(order); i++ {
			a, b := order[i-1], order[i]
			if lens[a] == lens[b] && words[b] != words[a]+1 {
				t.Fatalf("Words(%v): %b of %d, %b of %d", lens, words[a], a, words[b], b)
			}
			if words[a]<<(longest-lens[a]) >= words[b]<<(longest-lens[b]) {
				t.Fatalf("Words(%v): %b of %d bits ahead of %b of %d", lens, words[a], lens[a], words[b], lens[b])
			}
		}
	}
}

// R3: lengths are not changed, with the room behind their end, which plays no part.
func TestLengthsStay(t *testing.T) {
	for _, room := range [][]uint8{
		{2, 1, 0, 2, 21, 1, 1, 0xee},
		{1, 1, 1, 0, 21, 1, 1, 0xee},
		{1, 21, 1, 0, 1, 1, 1, 0xee},
		{0, 0, 0, 0, 1, 2, 3, 0xee},
	} {
		whole := slices.Clone(room)
		lens := room[:4]
		class, e1 := kraft.Classify(lens)
		words, e2 := kraft.Words(lens)
		kraft.Single(lens)
		if !slices.Equal(room, whole) {
			t.Errorf("%v became %v", whole, room)
		}
		other, e3 := kraft.Classify(slices.Clone(lens))
		otherWords, e4 := kraft.Words(slices.Clone(lens))
		if class != other || e1 != e3 || e2 != e4 || !slices.Equal(words, otherWords) {
			t.Errorf("%v: the room behind the end plays a part", whole)
		}
	}
}

// R3: words stay when the lengths are overwritten, and are new memory: no later answer shows what is written there.
func TestWordsAreNew(t *testing.T) {
	lens := []uint8{2, 1, 0, 2}
	first, _ := kraft.Words(lens)
	second, _ := kraft.Words(lens)
	clear(lens)
	want := []uint32{0b10, 0, 0, 0b11}
	if !slices.Equal(first, want) || !slices.Equal(second, want) {
		t.Errorf("%b, %b, want %b", first, second, want)
	}
	all := first[:cap(first)]
	for i := range all {
		all[i] = 77
	}
	if !slices.Equal(second, want) {
		t.Errorf("an earlier answer became %b", second)
	}
	wantWords(t, []uint8{2, 1, 0, 2}, want...)
	wantWords(t, lens, 0, 0, 0, 0)
}

// R2: the same lengths have the same answers again, whatever was asked between.
func TestSameAgain(t *testing.T) {
	l := slices.Concat(fullCodes()[:60], underCodes()[:60])
	var words [][]uint32
	for _, lens := range l {
		w, _ := kraft.Words(lens)
		words = append(words, w)
	}
	for i := len(l) - 1; i >= 0; i-- {
		kraft.Words([]uint8{1, 1, 1})
		kraft.Classify([]uint8{21})
		wantWords(t, l[i], words[i]...)
	}
}

// R2: calls at the same time do not know of one another.
func TestAtTheSameTime(t *testing.T) {
	shared := []uint8{2, 1, 0, 2}
	var all sync.WaitGroup
	for i := range 16 {
		all.Go(func() {
			seed := rough(i)
			for range 20 {
				words := 2 + seed.next(60)
				wantDefined(t, seed.scattered(seed.full(words), words+seed.next(40)))
				wantWords(t, shared, 0b10, 0, 0, 0b11)
			}
		})
	}
	all.Wait()
}
