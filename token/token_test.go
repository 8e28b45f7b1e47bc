package token_test

import (
	"bytes"
	"math"
	"math/rand/v2"
	"slices"
	"sync"
	"testing"

	"presswork/api"
	"presswork/token"
)

// The least lengths, and the bits, of the symbols from 257 on, as the chapter lists them.
var (
	leastLengths = []int{
		3, 4, 5, 6, 7, 8, 9, 10, 11, 13, 15, 17, 19, 23, 27, 31, 35, 43, 51, 59, 67, 83, 99, 115, 131, 163, 195, 227, 258,
	}
	lengthBits = []int{
		0, 0, 0, 0, 0, 0, 0, 0, 1, 1, 1, 1, 2, 2, 2, 2, 3, 3, 3, 3, 4, 4, 4, 4, 5, 5, 5, 5, 0,
	}
)

// The same of the symbols of distances, from 0 on.
var (
	leastDistances = []int{
		1, 2, 3, 4, 5, 7, 9, 13, 17, 25, 33, 49, 65, 97, 129, 193, 257, 385, 513, 769, 1025, 1537, 2049, 3073, 4097, 6145, 8193, 12289, 16385, 24577,
	}
	distanceBits = []int{
		0, 0, 0, 0, 1, 1, 2, 2, 3, 3, 4, 4, 5, 5, 6, 6, 7, 7, 8, 8, 9, 9, 10, 10, 11, 11, 12, 12, 13, 13,
	}
)

// extremes are numbers that are neither lengths, nor distances, nor symbols.
var extremes = []int{
	-1, -2, -3, -256, -257, -258, -32768, math.MinInt32, math.MinInt32 - 257, math.MinInt, math.MinInt + 1, math.MinInt + 257, math.MinInt + 285,
	32769, 32770, 65535, 65536, 65536 + 3, 1<<20 + 258, 1<<24 + 5, math.MaxInt32, math.MaxUint32, 1<<32 + 3, 1<<32 + 258, math.MaxInt - 1, math.MaxInt,
}

type tokens = []api.Token

func source(seed uint64) *rand.Rand { return rand.New(rand.NewPCG(8, seed)) }

func one(b byte) api.Token { return api.Token{Byte: b} }

func from(n, dist int) api.Token { return api.Token{Len: n, Dist: dist} }

// letters is each byte of a text as a token.
func letters(text string) tokens {
	var l tokens
	for _, b := range []byte(text) {
		l = append(l, one(b))
	}
	return l
}

func and(parts ...tokens) tokens { return slices.Concat(parts...) }

// short is a row as a failure tells it: not more than can be looked at.
func short[T any](l []T) []T { return l[:min(len(l), 100)] }

// call is Length or Distance.
type call func(n int) (symbol, bits, extra int, e api.Errno)

func wantSymbol(t *testing.T, f call, n, symbol, bits, extra int) {
	t.Helper()
	if s, b, x, e := f(n); s != symbol || b != bits || x != extra || e != api.OK {
		t.Fatalf("of %d: %d, %d, %d, %v, want %d, %d, %d", n, s, b, x, e, symbol, bits, extra)
	}
}

func wantNoSymbol(t *testing.T, f call, n int) {
	t.Helper()
	if s, b, x, e := f(n); s != 0 || b != 0 || x != 0 || e != api.ErrArg {
		t.Fatalf("of %d: %d, %d, %d, %v, want zeros, %v", n, s, b, x, e, api.ErrArg)
	}
}

// callOf is LengthOf or DistanceOf.
type callOf func(symbol int) (least, bits int, e api.Errno)

func wantLeast(t *testing.T, f callOf, symbol, least, bits int) {
	t.Helper()
	if l, b, e := f(symbol); l != least || b != bits || e != api.OK {
		t.Fatalf("of symbol %d: %d, %d, %v, want %d, %d", symbol, l, b, e, least, bits)
	}
}

func wantNoLeast(t *testing.T, f callOf, symbol int) {
	t.Helper()
	if l, b, e := f(symbol); l != 0 || b != 0 || e != api.ErrArg {
		t.Fatalf("of symbol %d: %d, %d, %v, want zeros, %v", symbol, l, b, e, api.ErrArg)
	}
}

func wantExpand(t *testing.T, l tokens, want []byte) {
	t.Helper()
	if got, e := token.Expand(l); e != api.OK || !bytes.Equal(got, want) {
		t.Fatalf("Expand(%d: %v) = %q, %v, want %q", len(l), short(l), short(got), e, short(want))
	}
}

// wantNoExpand asks for this error, and for no bytes beside it.
func wantNoExpand(t *testing.T, l tokens, want api.Errno) {
	t.Helper()
	if got, e := token.Expand(l); e != want || len(got) != 0 {
		t.Fatalf("Expand(%d: %v) = %q, %v, want none, %v", len(l), short(l), short(got), e, want)
	}
}

// said is what tokens say by the chapter's words: the bytes laid into their places, one by one; false, if a repetition reaches ahead of the first.
func said(l tokens) ([]byte, bool) {
	size := 0
	for _, t := range l {
		size += max(t.Len, 1)
	}
	b := make([]byte, size)
	at := 0
	for _, t := range l {
		if t.Len == 0 {
			b[at] = t.Byte
			at++
			continue
		}
		if at-t.Dist < 0 {
			return nil, false
		}
		for range t.Len {
			b[at] = b[at-t.Dist]
			at++
		}
	}
	return b, true
}

func wantSaid(t *testing.T, l tokens) {
	t.Helper()
	if want, ok := said(l); ok {
		wantExpand(t, l, want)
	} else {
		wantNoExpand(t, l, api.ErrForm)
	}
}

// noTokens are all kinds that are neither a byte nor a repetition.
func noTokens() tokens {
	l := tokens{
		{Len: 1, Dist: 1}, {Len: 2, Dist: 1}, {Len: 259, Dist: 1}, {Len: 260, Dist: 4}, {Len: -1, Dist: 1}, {Len: -3, Dist: 1}, {Len: -258, Dist: 5},
		{Len: 3}, {Len: 258}, {Len: 3, Dist: -1}, {Len: 258, Dist: -32768}, {Len: 3, Dist: 32769}, {Len: 258, Dist: 32769}, {Len: 3, Dist: 32770},
		{Dist: 1}, {Dist: 2}, {Dist: 32768}, {Dist: 32769}, {Dist: -1}, {Len: 1}, {Len: 2}, {Len: -1}, {Len: 259},
		{Len: 3, Dist: 1, Byte: 1}, {Len: 3, Dist: 1, Byte: 'a'}, {Len: 258, Dist: 32768, Byte: 255}, {Len: 3, Byte: 'a'}, {Dist: 1, Byte: 'a'},
		{Len: 1, Byte: 'a'}, {Len: 2, Dist: 1, Byte: 'a'}, {Len: -1, Dist: -1}, {Len: -1, Dist: -1, Byte: 'a'}, {Len: 2, Dist: 32769},
	}
	for _, n := range extremes {
		l = append(l, from(n, 0), from(n, 1), from(n, n))
		if n != 32768 {
			l = append(l, from(0, n), from(3, n), from(258, n))
		}
	}
	return l
}

// roughTokens is up to that many tokens that may be, with distances of all sizes.
func roughTokens(r *rand.Rand, most int) tokens {
	var l tokens
	at := 0
	for range r.IntN(most + 1) {
		if at == 0 || r.IntN(3) == 0 {
			l = append(l, one(byte(r.IntN(256))))
			at++
			continue
		}
		n := 3 + r.IntN([]int{1, 4, 20, 256}[r.IntN(4)])
		reach := min(at, 32768)
		dist := 1 + r.IntN([]int{1, min(reach, 4), min(reach, 300), reach}[r.IntN(4)])
		if r.IntN(20) == 0 {
			dist = reach
		}
		l = append(l, from(n, dist))
		at += n
	}
	return l
}

// P8.1, P8.3: the chapter's examples.
func TestExamples(t *testing.T) {
	wantSymbol(t, token.Length, 3, 257, 0, 0)
	wantSymbol(t, token.Length, 12, 265, 1, 1)
	wantSymbol(t, token.Length, 257, 284, 5, 30)
	wantSymbol(t, token.Length, 258, 285, 0, 0)
	wantSymbol(t, token.Distance, 1, 0, 0, 0)
	wantSymbol(t, token.Distance, 6, 4, 1, 1)
	wantSymbol(t, token.Distance, 32768, 29, 13, 8191)
	wantExpand(t, tokens{one('a'), one('b'), from(4, 2)}, []byte("ababab"))
	wantNoExpand(t, tokens{from(3, 1)}, api.ErrForm)
	wantNoExpand(t, tokens{from(2, 1)}, api.ErrArg)
	wantExpand(t, tokens{one('a'), one('b'), from(4, 2), one('c')}, []byte("abababc"))
}

// P8.1, P8.4: every length, said by the last symbol of the list that begins no later.
func TestEveryLength(t *testing.T) {
	i := 0
	for n := 3; n <= 258; n++ {
		if i+1 < len(leastLengths) && leastLengths[i+1] == n {
			i++
		}
		wantSymbol(t, token.Length, n, 257+i, lengthBits[i], n-leastLengths[i])
	}
	if i != 28 {
		t.Error(i)
	}
}

// P8.1, P8.4: every distance.
func TestEveryDistance(t *testing.T) {
	i := 0
	for d := 1; d <= 32768; d++ {
		if i+1 < len(leastDistances) && leastDistances[i+1] == d {
			i++
		}
		wantSymbol(t, token.Distance, d, i, distanceBits[i], d-leastDistances[i])
	}
	if i != 29 {
		t.Error(i)
	}
}

// P8.1, R4, R7: what is no length, and no distance.
func TestNoLengthsNoDistances(t *testing.T) {
	for n := -70000; n <= 70000; n++ {
		if n < 3 || n > 258 {
			wantNoSymbol(t, token.Length, n)
		}
		if n < 1 || n > 32768 {
			wantNoSymbol(t, token.Distance, n)
		}
	}
	for _, n := range extremes {
		wantNoSymbol(t, token.Length, n)
		wantNoSymbol(t, token.Distance, n)
	}
	for _, n := range []int{0, 1, 2, 259, 32768} {
		wantNoSymbol(t, token.Length, n)
	}
	wantNoSymbol(t, token.Distance, 0)
}

// P8.2: every symbol, by the chapter's lists.
func TestEverySymbol(t *testing.T) {
	for i, least := range leastLengths {
		wantLeast(t, token.LengthOf, 257+i, least, lengthBits[i])
	}
	for i, least := range leastDistances {
		wantLeast(t, token.DistanceOf, i, least, distanceBits[i])
	}
}

// P8.2, R4, R7: what is no symbol.
func TestNoSymbols(t *testing.T) {
	for s := -70000; s <= 70000; s++ {
		if s < 257 || s > 285 {
			wantNoLeast(t, token.LengthOf, s)
		}
		if s < 0 || s > 29 {
			wantNoLeast(t, token.DistanceOf, s)
		}
	}
	for _, s := range extremes {
		wantNoLeast(t, token.LengthOf, s)
		wantNoLeast(t, token.DistanceOf, s)
	}
	for _, s := range []int{0, 28, 29, 256, 286, 287} {
		wantNoLeast(t, token.LengthOf, s)
	}
	for _, s := range []int{30, 31, 257, 285} {
		wantNoLeast(t, token.DistanceOf, s)
	}
}

// wantAgain asks that a symbol's least one and the extra say n, and that the extra has no more bits than it may.
func wantAgain(t *testing.T, f call, of callOf, n int) {
	t.Helper()
	symbol, bits, extra, e := f(n)
	least, most, e2 := of(symbol)
	if e != api.OK || e2 != api.OK || bits != most || least+extra != n || extra < 0 || extra >= 1<<bits {
		t.Fatalf("%d: symbol %d, bits %d, extra %d, %v; least %d, bits %d, %v", n, symbol, bits, extra, e, least, most, e2)
	}
}

// P8.4: each length and each distance is its symbol's least one, and the extra.
func TestLeastAndExtra(t *testing.T) {
	for n := 3; n <= 258; n++ {
		wantAgain(t, token.Length, token.LengthOf, n)
	}
	for d := 1; d <= 32768; d++ {
		wantAgain(t, token.Distance, token.DistanceOf, d)
	}
}

// P8.4: each symbol with each of its extras is what says that length; but that 284 with the greatest extra would be 258, which 285 says.
func TestSymbolsAndExtras(t *testing.T) {
	for symbol := 257; symbol <= 285; symbol++ {
		least, bits, _ := token.LengthOf(symbol)
		for extra := range 1 << bits {
			if symbol == 284 && extra == 31 {
				wantSymbol(t, token.Length, least+extra, 285, 0, 0)
			} else {
				wantSymbol(t, token.Length, least+extra, symbol, bits, extra)
			}
		}
	}
	for symbol := range 30 {
		least, bits, _ := token.DistanceOf(symbol)
		for extra := range 1 << bits {
			wantSymbol(t, token.Distance, least+extra, symbol, bits, extra)
		}
	}
}

// P8.3, R6: no tokens.
func TestNothing(t *testing.T) {
	for _, l := range []tokens{nil, {}, make(tokens, 0, 8)} {
		wantExpand(t, l, nil)
	}
}

// P8.3: each byte alone, also 0, which is a token without anything.
func TestBytes(t *testing.T) {
	all := make([]byte, 256)
	var l tokens
	for b := range 256 {
		wantExpand(t, tokens{one(byte(b))}, []byte{byte(b)})
		all[b] = byte(b)
		l = append(l, one(byte(b)))
	}
	wantExpand(t, l, all)
	wantExpand(t, make(tokens, 5), make([]byte, 5))
}

// P8.3: each number of bytes of a repetition, from each of some distances: shorter, as long, and longer than it.
func TestEachRepetition(t *testing.T) {
	ahead := make(tokens, 300)
	for i := range ahead {
		ahead[i] = one(byte(i*7 + i>>3))
	}
	for n := 3; n <= 258; n++ {
		for _, dist := range []int{1, 2, 3, 4, 5, 7, n - 2, n - 1, n, n + 1, 257, 258, 259, 299, 300} {
			wantSaid(t, append(slices.Clone(ahead), from(n, dist), one('!')))
		}
	}
}

// P8.3: repetitions that go on into what they say, byte by byte.
func TestRepetitionsOfThemselves(t *testing.T) {
	wantExpand(t, tokens{one('a'), from(3, 1)}, []byte("aaaa"))
	wantExpand(t, tokens{one('a'), from(258, 1)}, bytes.Repeat([]byte("a"), 259))
	wantExpand(t, and(letters("abc"), tokens{from(7, 3)}), []byte("abcabcabca"))
	wantExpand(t, and(letters("abc"), tokens{from(7, 2)}), []byte("abcbcbcbcb"))
	wantExpand(t, and(letters("abc"), tokens{from(3, 3), from(5, 4), one('x'), from(3, 1)}), []byte("abcabccabccxxxx"))
	wantExpand(t, and(letters("ab"), tokens{from(3, 2), from(3, 5), from(4, 8)}), []byte("ababa"+"aba"+"abab"))
}

// P8.3: a repetition that reaches just to the first byte, and one byte and more ahead of it.
func TestReach(t *testing.T) {
	for _, n := range []int{1, 2, 3, 4, 100, 257, 258, 259, 1000, 32766, 32767} {
		ahead := make(tokens, n)
		for i := range ahead {
			ahead[i] = one(byte(i * i >> 3))
		}
		for _, size := range []int{3, 4, 258} {
			wantSaid(t, append(slices.Clone(ahead), from(size, n)))
			for _, dist := range []int{n + 1, min(n+2, 32768), 32768} {
				wantNoExpand(t, append(slices.Clone(ahead), from(size, dist)), api.ErrForm)
				wantNoExpand(t, append(slices.Clone(ahead), from(size, dist), one('x')), api.ErrForm)
			}
			// The bytes of a repetition count, too.
			wantSaid(t, append(slices.Clone(ahead), from(size, n), from(3, min(n+size, 32768))))
			if n+size < 32768 {
				wantNoExpand(t, append(slices.Clone(ahead), from(size, n), from(3, n+size+1)), api.ErrForm)
			}
		}
	}
	for _, size := range []int{3, 258} {
		for _, dist := range []int{1, 2, 32767, 32768} {
			wantNoExpand(t, tokens{from(size, dist)}, api.ErrForm)
			wantNoExpand(t, tokens{from(size, dist), one('a')}, api.ErrForm)
		}
	}
}

// P8.3: the greatest distance, behind just so many bytes and behind more.
func TestGreatestDistance(t *testing.T) {
	r := source(1)
	for _, n := range []int{32768, 32769, 33000, 70000} {
		ahead := make(tokens, n)
		for i := range ahead {
			ahead[i] = one(byte(r.IntN(256)))
		}
		for _, size := range []int{3, 257, 258} {
			wantSaid(t, append(slices.Clone(ahead), from(size, 32768), one('x'), from(size, 32767)))
			wantNoExpand(t, append(slices.Clone(ahead), from(size, 32769)), api.ErrArg)
		}
	}
}

// P8.3, R4: what is no token, alone and at each place beside those that may be.
func TestNoTokens(t *testing.T) {
	for _, wrong := range noTokens() {
		wantNoExpand(t, tokens{wrong}, api.ErrArg)
		wantNoExpand(t, tokens{one('a'), wrong}, api.ErrArg)
		wantNoExpand(t, tokens{wrong, one('a')}, api.ErrArg)
		wantNoExpand(t, tokens{one('a'), from(3, 1), wrong, from(258, 4)}, api.ErrArg)
	}
}

// P8.3: every Len and Dist around the edges, with and without a Byte.
func TestEdgesOfTokens(t *testing.T) {
	ahead := letters("abcdefgh")
	for n := -2; n <= 262; n++ {
		for _, dist := range []int{-1, 0, 1, 2, 8, 9, 32767, 32768, 32769} {
			for _, b := range []byte{0, 1, 'a', 255} {
				l := append(slices.Clone(ahead), api.Token{Len: n, Dist: dist, Byte: b})
				switch {
				case n == 0 && dist == 0:
					wantExpand(t, l, append([]byte("abcdefgh"), b))
				case n < 3 || n > 258 || dist < 1 || dist > 32768 || b != 0:
					wantNoExpand(t, l, api.ErrArg)
				default:
					wantSaid(t, l)
				}
			}
		}
	}
}

// P8.3, R5: ErrArg ahead of ErrForm, wherever the token that may not be stands.
func TestErrorsInOrder(t *testing.T) {
	for _, wrong := range noTokens() {
		wantNoExpand(t, tokens{from(3, 1), wrong}, api.ErrArg)
		wantNoExpand(t, tokens{wrong, from(3, 1)}, api.ErrArg)
		wantNoExpand(t, tokens{one('a'), from(3, 2), one('b'), wrong}, api.ErrArg)
		wantNoExpand(t, append(slices.Repeat(tokens{from(258, 32768)}, 500), wrong), api.ErrArg)
	}
}

// P8.3: all rows of up to six tokens out of two bytes and repetitions from near.
func TestAllShortRows(t *testing.T) {
	kinds := tokens{one('a'), one('b'), from(3, 1), from(4, 2), from(5, 3), from(3, 4)}
	rows := []tokens{nil}
	for range 6 {
		var longer []tokens
		for _, l := range rows {
			for _, k := range kinds {
				longer = append(longer, append(slices.Clone(l), k))
			}
		}
		for _, l := range longer {
			wantSaid(t, l)
		}
		rows = longer
	}
}

// P8.3: rough rows, as they are and with one distance that is another.
func TestRoughRows(t *testing.T) {
	r := source(2)
	for range 2000 {
		l := roughTokens(r, 300)
		wantSaid(t, l)
		for i := range l {
			if l[i].Len != 0 && r.IntN(30) == 0 {
				l[i].Dist = 1 + r.IntN(32768)
			}
		}
		wantSaid(t, l)
	}
	wantSaid(t, roughTokens(r, 1<<17))
}

// P8.3, R1: many repetitions of the greatest length, and an error at their end.
func TestManyTokens(t *testing.T) {
	l := append(tokens{one('x')}, slices.Repeat(tokens{from(258, 1)}, 1<<15)...)
	wantExpand(t, l, bytes.Repeat([]byte("x"), 258<<15+1))
	wantNoExpand(t, append(l, from(3, 32769)), api.ErrArg)
}

// R3: tokens are not changed, with the room behind their end, which plays no part.
func TestRoomStays(t *testing.T) {
	l := and(letters("ab"), tokens{from(4, 2), one('c'), from(2, 1), from(3, 32768)})
	same := slices.Clone(l)
	wantExpand(t, l[:4], []byte("abababc"))
	wantExpand(t, l[:3:4], []byte("ababab"))
	wantNoExpand(t, l[:5], api.ErrArg)
	wantNoExpand(t, l, api.ErrArg)
	if !slices.Equal(l, same) {
		t.Errorf("%v became %v", same, l)
	}
	r := source(3)
	for range 300 {
		l := roughTokens(r, 200)
		same := slices.Clone(l)
		token.Expand(l)
		if !slices.Equal(l, same) {
			t.Fatalf("%v became %v", same, l)
		}
	}
}

// R3: bytes do not hang on the tokens, and are new memory: neither an earlier nor a later answer shows what is written there.
func TestAnswersAreNew(t *testing.T) {
	l := and(letters("ab"), tokens{from(4, 2), one('c')})
	first, _ := token.Expand(l)
	second, _ := token.Expand(l)
	same := slices.Clone(l)
	clear(l)
	if string(first) != "abababc" || string(second) != "abababc" {
		t.Errorf("%q, %q", first, second)
	}
	room := first[:cap(first)]
	for i := range room {
		room[i] = '!'
	}
	if string(second) != "abababc" {
		t.Errorf("an earlier answer became %q", second)
	}
	wantExpand(t, same, []byte("abababc"))
}

// R2: the same arguments have the same answers again, whatever was asked between, from many goroutines at once.
func TestSameAgain(t *testing.T) {
	r := source(4)
	var rows []tokens
	for range 40 {
		rows = append(rows, roughTokens(r, 200))
	}
	var w sync.WaitGroup
	for range 8 {
		w.Go(func() {
			for n := -10; n < 300; n++ {
				token.Length(n)
				token.Distance(n * 111)
				token.LengthOf(n)
				token.DistanceOf(n)
			}
			for _, l := range append(rows, rows...) {
				want, _ := said(l)
				if got, e := token.Expand(l); e != api.OK || !bytes.Equal(got, want) {
					t.Errorf("Expand(%v) = %q, %v, want %q", short(l), short(got), e, short(want))
				}
			}
			for i := range leastLengths {
				if least, bits, e := token.LengthOf(257 + i); least != leastLengths[i] || bits != lengthBits[i] || e != api.OK {
					t.Errorf("LengthOf(%d) = %d, %d, %v", 257+i, least, bits, e)
				}
			}
			for i, d := range leastDistances {
				if symbol, bits, extra, e := token.Distance(d); symbol != i || bits != distanceBits[i] || extra != 0 || e != api.OK {
					t.Errorf("Distance(%d) = %d, %d, %d, %v", d, symbol, bits, extra, e)
				}
			}
		})
	}
	w.Wait()
}
