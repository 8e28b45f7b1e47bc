package sufsort_test

import (
	"bytes"
	"math"
	"slices"
	"strings"
	"sync"
	"testing"

	"presswork/sufsort"
)

// short is the beginning of a row, as failures tell it.
func short[T any](l []T) []T { return l[:min(len(l), 100)] }

func wantEnds(t *testing.T, b []byte, want ...int) {
	t.Helper()
	if order := sufsort.Ends(b); !slices.Equal(order, want) {
		t.Fatalf("Ends(%d: %x) = %d: %v, want %v", len(b), short(b), len(order), short(order), short(want))
	}
}

func wantRotations(t *testing.T, b []byte, want ...int) {
	t.Helper()
	if order := sufsort.Rotations(b); !slices.Equal(order, want) {
		t.Fatalf("Rotations(%d: %x) = %d: %v, want %v", len(b), short(b), len(order), short(order), short(want))
	}
}

func wantPlaces(t *testing.T, order []int, want ...int) {
	t.Helper()
	if places := sufsort.Places(order); !slices.Equal(places, want) {
		t.Fatalf("Places(%d: %v) = %d: %v, want %v", len(order), short(order), len(places), short(places), short(want))
	}
}

// wantOrders holds both orders against plain sorting, and against what the chapter says of them.
func wantOrders(t *testing.T, b []byte) {
	t.Helper()
	wantEnds(t, b, plainEnds(b)...)
	wantRotations(t, b, plainRotations(b)...)
	wantEndsByWords(t, b)
	wantRotationsByWords(t, b)
}

// wantEndsByWords asks for all places, each once, and for each end ahead of the next one.
func wantEndsByWords(t *testing.T, b []byte) {
	t.Helper()
	order := sufsort.Ends(b)
	if len(order) != len(b) || !isWhole(order) {
		t.Fatalf("Ends(%d: %x) = %d: %v", len(b), short(b), len(order), short(order))
	}
	for i := 1; i < len(order); i++ {
		if p, q := order[i-1], order[i]; compare(b[p:], b[q:]) >= 0 {
			t.Fatalf("Ends(%d: %x): %d ahead of %d", len(b), short(b), p, q)
		}
	}
}

// wantRotationsByWords asks for all places, each once, for no rotation behind the next one, for those of like ones rising, and for like ones just where they are as many bytes apart as the part of which the text is made.
func wantRotationsByWords(t *testing.T, b []byte) {
	t.Helper()
	order := sufsort.Rotations(b)
	if len(order) != len(b) || !isWhole(order) {
		t.Fatalf("Rotations(%d: %x) = %d: %v", len(b), short(b), len(order), short(order))
	}
	part := partOf(b)
	for i := 1; i < len(order); i++ {
		p, q := order[i-1], order[i]
		way := compareRotations(b, p, q)
		if way > 0 || way == 0 && p >= q || (way == 0) != ((q-p)%part == 0) {
			t.Fatalf("Rotations(%d: %x): %d ahead of %d, the part is %d", len(b), short(b), p, q, part)
		}
	}
}

// P13.1, P13.2, P13.3: the chapter's examples.
func TestExamples(t *testing.T) {
	wantEnds(t, []byte("banana"), 5, 3, 1, 0, 4, 2)
	wantRotations(t, []byte("banana"), 5, 3, 1, 0, 4, 2)
	wantRotations(t, []byte("abab"), 0, 2, 1, 3)
	wantPlaces(t, []int{2, 0, 1}, 1, 2, 0)
	wantPlaces(t, []int{0, 0})
}

// P13.1, P13.2: ends and rotations that are in another order: a text stands ahead of those that it begins, but rotations are all as long.
func TestUnlikeOrders(t *testing.T) {
	wantEnds(t, []byte("aab"), 0, 1, 2)
	wantEnds(t, []byte("aba"), 2, 0, 1)
	wantRotations(t, []byte("aba"), 2, 0, 1)
	wantEnds(t, []byte("bab"), 1, 2, 0)
	wantRotations(t, []byte("bab"), 1, 0, 2)
	wantEnds(t, []byte("abab"), 2, 0, 3, 1)
	wantEnds(t, []byte("cabca"), 4, 1, 2, 3, 0)
	wantRotations(t, []byte("cabca"), 1, 4, 2, 0, 3)
	wantEnds(t, []byte("abaab"), 2, 3, 0, 4, 1)
	wantRotations(t, []byte("abaab"), 2, 0, 3, 1, 4)
	wantEnds(t, []byte("mississippi"), 10, 7, 4, 1, 0, 9, 8, 6, 3, 5, 2)
	wantRotations(t, []byte("mississippi"), 10, 7, 4, 1, 0, 9, 8, 6, 3, 5, 2)
}

// P13.1, P13.2: no bytes, one byte, and all texts of two.
func TestFewBytes(t *testing.T) {
	wantEnds(t, nil)
	wantEnds(t, []byte{})
	wantRotations(t, nil)
	wantRotations(t, []byte{})
	for v := range 256 {
		wantEnds(t, []byte{byte(v)}, 0)
		wantRotations(t, []byte{byte(v)}, 0)
		for w := range 256 {
			b := []byte{byte(v), byte(w)}
			switch {
			case v < w:
				wantEnds(t, b, 0, 1)
				wantRotations(t, b, 0, 1)
			case v == w:
				wantEnds(t, b, 1, 0)
				wantRotations(t, b, 0, 1)
			default:
				wantEnds(t, b, 1, 0)
				wantRotations(t, b, 1, 0)
			}
		}
	}
}

// P13.1, P13.2, P13.4: all short texts of few values.
func TestAllShortTexts(t *testing.T) {
	for _, x := range []struct {
		most   int
		values string
	}{{12, "\x00\x01"}, {10, "\x7f\x80"}, {7, "\x00\x80\xff"}, {5, "\xff\xfe\x01\x00"}} {
		eachText(x.most, x.values, func(b []byte) { wantOrders(t, b) })
	}
}

// P13.1, P13.2, P13.4: all bytes alike: a shorter end is ahead of each longer one, and all rotations are alike.
func TestLikeBytes(t *testing.T) {
	for _, v := range []byte{0, 1, 'a', 127, 128, 254, 255} {
		for n := range 140 {
			wantEnds(t, like(v, n), falling(n)...)
			wantRotations(t, like(v, n), rising(n)...)
		}
	}
}

// P13.1, P13.2: all bytes alike but one, at each place.
func TestLikeBytesButOne(t *testing.T) {
	for _, n := range []int{2, 3, 15, 16, 17, 40} {
		for i := range n {
			for _, v := range []byte{0, 127, 128, 255} {
				b := like(v, n)
				b[i] = 64
				wantOrders(t, b)
				b[i] = 192
				wantOrders(t, b)
			}
		}
	}
}

// P13.2, P13.4: a part repeated, twice and many times: just the rotations as many bytes apart as the part are alike, and stand rising.
func TestParts(t *testing.T) {
	r := source(1)
	parts := [][]byte{[]byte("ab"), []byte("ba"), []byte("aab"), []byte("abab"), []byte("abcab"), {0, 255}, {255, 0, 128}, grown(21)}
	for n := range 12 {
		parts = append(parts, roughBytes(r, n+1, 2), roughBytes(r, n+1, 256))
	}
	for _, part := range parts {
		unlike := partOf(part)
		for times := range 20 {
			b := slices.Repeat(part, times+1)
			wantOrders(t, b)
			order := sufsort.Rotations(b)
			for group := range slices.Chunk(order, len(b)/unlike) {
				for i, place := range group {
					if place != group[0]+i*unlike || !bytes.Equal(rotation(b, place), rotation(b, group[0])) {
						t.Fatalf("Rotations(%x) = %v", b, order)
					}
				}
			}
		}
	}
}

// P13.1, P13.2: a part repeated, but not quite: with a byte more, a byte less, or one that is another at each place.
func TestNearlyParts(t *testing.T) {
	for _, part := range []string{"a", "ab", "abc", "aab", "\x00\xff", "\x80\x7f\x80\x00"} {
		for _, times := range []int{2, 3, 8, 11} {
			b := []byte(strings.Repeat(part, times))
			wantOrders(t, b[1:])
			wantOrders(t, b[:len(b)-1])
			wantOrders(t, append(slices.Clone(b), part[0]))
			wantOrders(t, append(slices.Clone(b), part[0]+1))
			wantOrders(t, append([]byte{part[0] - 1}, b...))
			for i := range b {
				other := slices.Clone(b)
				other[i]++
				wantOrders(t, other)
				other[i] -= 2
				wantOrders(t, other)
			}
		}
	}
}

// P13.4: like rotations, over all pairs of places, are just those that are as many bytes apart as the part; like ends there are none.
func TestPairsOfPlaces(t *testing.T) {
	eachText(9, "\x00\xff", func(b []byte) {
		part := partOf(b)
		ends, rotations := sufsort.Places(sufsort.Ends(b)), sufsort.Places(sufsort.Rotations(b))
		for p := range b {
			for q := range p {
				if way := compare(b[p:], b[q:]); way == 0 || (way < 0) != (ends[p] < ends[q]) {
					t.Fatalf("Ends(%x): %d, %d stand at %d, %d", b, p, q, ends[p], ends[q])
				}
				way := compare(rotation(b, p), rotation(b, q))
				if (way == 0) != ((p-q)%part == 0) || (way < 0) != (rotations[p] < rotations[q]) {
					t.Fatalf("Rotations(%x): %d, %d stand at %d, %d", b, p, q, rotations[p], rotations[q])
				}
			}
		}
	})
}

// P13.1, P13.2: all 256 values, rising and falling, once, twice and thrice, from each place on.
func TestAllValues(t *testing.T) {
	up := make([]byte, 256)
	for i := range up {
		up[i] = byte(i)
	}
	down := slices.Clone(up)
	slices.Reverse(down)
	wantEnds(t, up, rising(256)...)
	wantRotations(t, up, rising(256)...)
	wantEnds(t, down, falling(256)...)
	wantRotations(t, down, falling(256)...)
	for from := 0; from < 256; from += 15 {
		for _, b := range [][]byte{rotation(up, from), rotation(down, from)} {
			for times := range 3 {
				wantOrders(t, slices.Repeat(b, times+1))
				wantOrders(t, append(slices.Repeat(b, times+1), up[:from]...))
			}
		}
	}
	wantOrders(t, slices.Concat(up, down))
	wantOrders(t, slices.Concat(down, up))
}

// P13.1, P13.2: a byte from 128 on is behind those below; a byte 0 is not an end's end.
func TestValuesAtEdges(t *testing.T) {
	wantEnds(t, []byte{128, 127}, 1, 0)
	wantEnds(t, []byte{255, 128, 127, 1, 0}, 4, 3, 2, 1, 0)
	wantRotations(t, []byte{255, 128, 127, 1, 0}, 4, 3, 2, 1, 0)
	wantEnds(t, []byte{0, 127, 128, 255}, 0, 1, 2, 3)
	wantEnds(t, []byte{0, 0, 0}, 2, 1, 0)
	wantEnds(t, []byte{1, 0, 1}, 1, 2, 0)
	wantEnds(t, []byte{1, 0, 0, 1}, 1, 2, 3, 0)
	wantEnds(t, []byte{0, 1, 0}, 2, 0, 1)
	wantEnds(t, []byte{255, 255, 0, 255, 255}, 2, 4, 1, 3, 0)
	wantRotations(t, []byte{255, 255, 0, 255, 255}, 2, 1, 0, 4, 3)
}

// P13.1, P13.2: lengths that are a power of two, one less, one more.
func TestLengths(t *testing.T) {
	r := source(2)
	for power := 1; power <= 1024; power *= 2 {
		for _, n := range []int{power - 1, power, power + 1} {
			for _, values := range []int{1, 2, 3, 256} {
				wantOrders(t, roughBytes(r, n, values))
			}
			wantOrders(t, fill("ab", n))
			wantOrders(t, fill("abc", n))
			wantOrders(t, grown(n))
			b := roughBytes(r, n, 2)
			wantOrders(t, slices.Concat(b, b))
		}
	}
}

// P13.1, P13.2: texts whose ends and rotations differ at each of the first bytes, up to the last one only.
func TestFirstUnlikeByte(t *testing.T) {
	for n := range 70 {
		b := append(like('b', n), 'c')
		wantOrders(t, slices.Concat(b, b))
		wantOrders(t, slices.Concat(b, like('b', n), []byte("a")))
		wantOrders(t, slices.Concat(b, like('b', n), []byte("d")))
		wantOrders(t, slices.Concat(b, like('b', n)))
		wantOrders(t, slices.Concat(like('b', n+1), b))
	}
}

// P13.1, P13.2: rough texts.
func TestRoughTexts(t *testing.T) {
	r := source(3)
	for range 1500 {
		wantOrders(t, roughText(r, 200))
	}
	for range 8 {
		wantOrders(t, roughText(r, 4000))
	}
}

// The greatest texts that later layers hand in.
const (
	greatEnds      = 32768 + 65536
	greatRotations = 900000
)

// greatTexts are texts of n bytes.
func greatTexts(n int) map[string][]byte {
	r := source(4)
	half := roughBytes(r, n/2, 4)
	runs := make([]byte, 0, n+300)
	for len(runs) < n {
		runs = append(runs, like(byte(r.IntN(3)), 1+r.IntN(300))...)
	}
	return map[string][]byte{
		"bytes 0":           like(0, n),
		"bytes 255":         like(255, n),
		"ab":                fill("ab", n),
		"abc":               fill("abc", n),
		"but the last byte": append(like('a', n-1), 'b'),
		"but the first":     append([]byte{'b'}, like('a', n-1)...),
		"nearly a part":     append(fill("ab", n-1), 'c'),
		"cut short":         fill("ab", n-1),
		"half and half":     slices.Concat(half, half),
		"but one byte":      slices.Concat(half, half[:len(half)-1], []byte{0}),
		"grown":             grown(n),
		"runs":              runs[:n],
		"two values":        roughBytes(r, n, 2),
		"all values":        roughBytes(r, n, 256),
	}
}

// P13.1: great texts: as few steps for each byte as the chapter's way needs, so that this ends soon even where all ends are nearly alike.
func TestGreatEnds(t *testing.T) {
	for _, n := range []int{greatEnds, greatRotations} {
		for name, b := range greatTexts(n) {
			wantGreatEnds(t, name, b)
		}
	}
}

// wantGreatEnds asks for an order of ends in a few steps for each byte: of neighbours the first one's byte is less, or it is the same and what is behind it stands ahead of what is behind the other's, or is nothing.
func wantGreatEnds(t *testing.T, name string, b []byte) {
	t.Helper()
	order := sufsort.Ends(b)
	if len(order) != len(b) || !isWhole(order) {
		t.Fatalf("%s: %d of %d", name, len(order), len(b))
	}
	stands := make([]int, len(b)+1)
	for i, place := range order {
		stands[place] = i
	}
	stands[len(b)] = -1
	for i := 1; i < len(order); i++ {
		p, q := order[i-1], order[i]
		if b[p] > b[q] || b[p] == b[q] && stands[p+1] >= stands[q+1] {
			t.Fatalf("%s: Ends of %d: %d ahead of %d", name, len(b), p, q)
		}
	}
}

// P13.2, P13.4: great texts.
func TestGreatRotations(t *testing.T) {
	for _, n := range []int{greatEnds, greatRotations} {
		for name, b := range greatTexts(n) {
			wantGreatRotations(t, name, b)
		}
	}
}

// wantGreatRotations asks for an order of rotations in a few steps for each byte: like ones stand rising in groups, one for each byte of the part; and of neighbouring groups the first one's byte is less, or it is the same and what is behind it stands ahead of what is behind the other's.
func wantGreatRotations(t *testing.T, name string, b []byte) {
	t.Helper()
	order, part := sufsort.Rotations(b), partOf(b)
	if len(order) != len(b) || !isWhole(order) {
		t.Fatalf("%s: %d of %d", name, len(order), len(b))
	}
	times := len(b) / part
	stands := make([]int, part)
	for i, place := range order {
		first := order[i-i%times]
		if first >= part || place != first+i%times*part {
			t.Fatalf("%s: Rotations of %d: %d behind %d, the part is %d", name, len(b), place, first, part)
		}
		stands[first] = i / times
	}
	for i := times; i < len(order); i += times {
		p, q := order[i-times], order[i]
		if b[p] > b[q] || b[p] == b[q] && stands[(p+1)%part] >= stands[(q+1)%part] {
			t.Fatalf("%s: Rotations of %d: %d ahead of %d", name, len(b), p, q)
		}
	}
}

// P13.3: rows of up to five numbers, those that are none among them, in each mixture: where each stands, just if they are whole; and of that, the row itself.
func TestAllShortRows(t *testing.T) {
	for n := range 6 {
		eachRow(n, -2, n+1, func(row []int) {
			if !isWhole(row) {
				wantPlaces(t, row)
				return
			}
			wantWhole(t, row)
		})
	}
}

// wantWhole asks where each number of a whole row stands.
func wantWhole(t *testing.T, row []int) {
	t.Helper()
	want := make([]int, len(row))
	for v := range row {
		want[v] = slices.Index(row, v)
	}
	wantPlaces(t, row, want...)
	wantPlaces(t, want, row...)
}

// P13.3: no numbers; rows that are as they were, and turned about.
func TestPlaces(t *testing.T) {
	wantPlaces(t, nil)
	wantPlaces(t, []int{})
	wantPlaces(t, []int{0}, 0)
	for n := range 100 {
		wantPlaces(t, rising(n), rising(n)...)
		wantPlaces(t, falling(n), falling(n)...)
	}
	r := source(5)
	for range 200 {
		wantWhole(t, r.Perm(r.IntN(300)))
	}
}

// P13.3: of the order of ends, and of rotations: which place of it each end has.
func TestPlacesOfOrders(t *testing.T) {
	wantPlaces(t, sufsort.Ends([]byte("banana")), 3, 2, 5, 1, 4, 0)
	wantPlaces(t, sufsort.Rotations([]byte("abab")), 0, 2, 1, 3)
	r := source(6)
	for range 100 {
		b := roughText(r, 300)
		wantWhole(t, sufsort.Ends(b))
		wantWhole(t, sufsort.Rotations(b))
	}
}

// P13.3: a number twice, one below 0, one too great, the least and the greatest, at each place: nothing.
func TestRowsThatAreNotWhole(t *testing.T) {
	r := source(7)
	for _, n := range []int{1, 2, 3, 17, 300} {
		row := r.Perm(n)
		for i := range row {
			wrongs := []int{-1, -2, n, n + 1, -n, 2 * n, math.MinInt, math.MinInt + 1, math.MaxInt, math.MaxInt - 1, math.MinInt32, math.MaxInt32, 1 << 32, row[i] + 1<<32, row[i] | math.MinInt}
			if n > 1 {
				wrongs = append(wrongs, row[(i+1)%n], row[(i+n-1)%n])
			}
			for _, wrong := range wrongs {
				other := slices.Clone(row)
				other[i] = wrong
				wantPlaces(t, other)
			}
		}
	}
}

// P13.3: great rows.
func TestGreatRows(t *testing.T) {
	row := source(8).Perm(greatRotations)
	places := sufsort.Places(row)
	if len(places) != len(row) {
		t.Fatalf("%d of %d", len(places), len(row))
	}
	for i, v := range row {
		if places[v] != i {
			t.Fatalf("%d stands at %d, not at %d", v, i, places[v])
		}
	}
	wantPlaces(t, places, row...)
	for _, i := range []int{0, len(row) - 1} {
		for _, wrong := range []int{-1, len(row), row[len(row)/2]} {
			other := slices.Clone(row)
			other[i] = wrong
			wantPlaces(t, other)
		}
	}
}

// overwrite fills a row with another number, with the room behind its end.
func overwrite(row []int) {
	all := row[:cap(row)]
	for i := range all {
		all[i] = 77
	}
}

// R3: bytes are neither changed nor kept, with the room behind their end, which plays no part; orders are new memory.
func TestMemoryOfOrders(t *testing.T) {
	r := source(9)
	for _, order := range []func(b []byte) []int{sufsort.Ends, sufsort.Rotations} {
		for range 200 {
			b := roughText(r, 100)
			room := slices.Concat(b, []byte("\x00\xffroom"))
			whole := slices.Clone(room)
			first, second := order(room[:len(b)]), order(room[:len(b)])
			want := order(b)
			if !bytes.Equal(room, whole) {
				t.Fatalf("%x became %x", whole, room)
			}
			clear(room)
			if !slices.Equal(first, want) || !slices.Equal(second, want) {
				t.Fatalf("%x: %v, %v, want %v", b, first, second, want)
			}
			overwrite(first)
			if !slices.Equal(second, want) || !slices.Equal(order(b), want) {
				t.Fatalf("%x: an answer shares memory", b)
			}
		}
	}
}

// R3: numbers are neither changed nor kept, with the room behind their end, which plays no part; places are new memory, of a row that is its own answer, too.
func TestMemoryOfPlaces(t *testing.T) {
	r := source(10)
	for n := range 100 {
		for _, row := range [][]int{rising(n), r.Perm(n), append(rising(n), n), append(r.Perm(n), n)} {
			room := append(slices.Clone(row), len(row), -1, 0)
			whole := slices.Clone(room)
			want := sufsort.Places(slices.Clone(row))
			first, second := sufsort.Places(room[:len(row)]), sufsort.Places(room[:len(row)])
			none := sufsort.Places(room)
			if !slices.Equal(room, whole) || len(none) != 0 {
				t.Fatalf("%v became %v, %v", whole, room, none)
			}
			clear(room)
			if len(first) != len(row) || !slices.Equal(first, want) || !slices.Equal(second, want) {
				t.Fatalf("%v: %v, %v, want %v", row, first, second, want)
			}
			overwrite(first)
			if !slices.Equal(second, want) || !slices.Equal(room, make([]int, len(room))) {
				t.Fatalf("%v: an answer shares memory", row)
			}
		}
	}
}

// R2: the same arguments have the same answer again, whatever was asked between, from many goroutines at once, of the same memory, too.
func TestSameAgain(t *testing.T) {
	r := source(11)
	type text struct {
		b                       []byte
		ends, rotations, places []int
	}
	var texts []text
	for range 60 {
		b := roughText(r, 300)
		texts = append(texts, text{b, plainEnds(b), plainRotations(b), sufsort.Places(plainEnds(b))})
	}
	var all sync.WaitGroup
	for n := range 8 {
		all.Go(func() {
			for i := range 3 * len(texts) {
				x := texts[(i*(n+1)+n)%len(texts)]
				ends, rotations, places := sufsort.Ends(x.b), sufsort.Rotations(x.b), sufsort.Places(x.ends)
				if !slices.Equal(ends, x.ends) || !slices.Equal(rotations, x.rotations) || !slices.Equal(places, x.places) {
					t.Errorf("%x: %v, %v, %v", x.b, ends, rotations, places)
				}
				if none := sufsort.Places([]int{1, n + 1}); len(none) != 0 {
					t.Error(none)
				}
			}
		})
	}
	all.Wait()
}
