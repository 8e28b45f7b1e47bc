package lcp_test

import (
	"math"
	"slices"
	"testing"

	"presswork/api"
	"presswork/lcp"
	"presswork/sufsort"
)

// short is the beginning of a row, as failures tell it.
func short[T any](l []T) []T { return l[:min(len(l), 100)] }

func wantHeights(t *testing.T, b []byte, order []int, want ...int) {
	t.Helper()
	heights, e := lcp.Heights(b, order)
	if e != api.OK || !slices.Equal(heights, want) {
		t.Fatalf("Heights(%d: %x, %v) = %d: %v, %v, want %v", len(b), short(b), short(order), len(heights), short(heights), e, short(want))
	}
}

func wantNoHeights(t *testing.T, b []byte, order []int) {
	t.Helper()
	if heights, e := lcp.Heights(b, order); e != api.ErrArg || len(heights) != 0 {
		t.Fatalf("Heights(%d: %x, %d: %v) = %v, %v, want none, ErrArg", len(b), short(b), len(order), short(order), short(heights), e)
	}
}

func wantCommon(t *testing.T, heights []int, p, q, want int) {
	t.Helper()
	if n, e := lcp.Common(heights, p, q); n != want || e != api.OK {
		t.Fatalf("Common(%d: %v, %d, %d) = %d, %v, want %d", len(heights), short(heights), p, q, n, e, want)
	}
}

func wantNoCommon(t *testing.T, heights []int, p, q int) {
	t.Helper()
	if n, e := lcp.Common(heights, p, q); n != 0 || e != api.ErrArg {
		t.Fatalf("Common(%d: %v, %d, %d) = %d, %v, want 0, ErrArg", len(heights), short(heights), p, q, n, e)
	}
}

// wantText holds the heights of a text's ends against plain counting, by an order that is sorted plainly.
func wantText(t *testing.T, b []byte) {
	t.Helper()
	order := plainEnds(b)
	wantHeights(t, b, order, plainHeights(b, order)...)
}

// wantPairs asks, of all places p below q of a text's order, what is common to those that stand there, and that it is no less than to one further off, on either side.
func wantPairs(t *testing.T, b []byte) {
	t.Helper()
	order := plainEnds(b)
	heights, e := lcp.Heights(b, order)
	if e != api.OK {
		t.Fatalf("Heights(%x, %v): %v", b, order, e)
	}
	for p := range order {
		for q := p + 1; q < len(order); q++ {
			wantCommon(t, heights, p, q, plainCommon(b, order[p], order[q]))
			wantNoLessThanFurther(t, heights, p, q)
		}
	}
}

// wantNoLessThanFurther holds what is common at p and q against what is at a place further off, behind q and ahead of p.
func wantNoLessThanFurther(t *testing.T, heights []int, p, q int) {
	t.Helper()
	n, _ := lcp.Common(heights, p, q)
	for _, far := range [][2]int{{p, q + 1}, {p - 1, q}} {
		if m, e := lcp.Common(heights, far[0], far[1]); e == api.OK && m > n {
			t.Fatalf("%v: %d is common at %d, %d, and %d at %v", short(heights), n, p, q, m, far)
		}
	}
}

// P14.1, P14.2: the chapter's examples.
func TestExamples(t *testing.T) {
	banana, order := []byte("banana"), []int{5, 3, 1, 0, 4, 2}
	wantHeights(t, banana, order, 0, 1, 3, 0, 0, 2)
	heights := []int{0, 1, 3, 0, 0, 2}
	wantCommon(t, heights, 0, 2, 1)
	wantCommon(t, heights, 4, 5, 2)
	wantNoCommon(t, heights, 2, 2)
	wantNoHeights(t, banana, []int{0, 1, 2, 3, 4, 5})
}

// P14.1: heights told by hand.
func TestHeightsByHand(t *testing.T) {
	wantHeights(t, []byte("mississippi"), []int{10, 7, 4, 1, 0, 9, 8, 6, 3, 5, 2}, 0, 1, 1, 4, 0, 0, 1, 0, 2, 1, 3)
	wantHeights(t, []byte("abab"), []int{2, 0, 3, 1}, 0, 2, 0, 1)
	wantHeights(t, []byte("abaab"), []int{2, 3, 0, 4, 1}, 0, 1, 2, 0, 1)
	wantHeights(t, []byte("aaaa"), []int{3, 2, 1, 0}, 0, 1, 2, 3)
	wantHeights(t, []byte("abcd"), []int{0, 1, 2, 3}, 0, 0, 0, 0)
	wantHeights(t, []byte{0, 0, 255, 0, 0, 128}, []int{3, 0, 4, 1, 5, 2}, 0, 2, 1, 1, 0, 0)
}

// P14.1: no bytes, one byte, and all texts of two.
func TestFewBytes(t *testing.T) {
	wantHeights(t, nil, nil)
	wantHeights(t, []byte{}, []int{})
	wantHeights(t, nil, []int{})
	wantHeights(t, []byte{}, nil)
	for v := range 256 {
		wantHeights(t, []byte{byte(v)}, []int{0}, 0)
		for w := range 256 {
			b := []byte{byte(v), byte(w)}
			switch {
			case v < w:
				wantHeights(t, b, []int{0, 1}, 0, 0)
				wantNoHeights(t, b, []int{1, 0})
			case v == w:
				wantHeights(t, b, []int{1, 0}, 0, 1)
				wantNoHeights(t, b, []int{0, 1})
			default:
				wantHeights(t, b, []int{1, 0}, 0, 0)
				wantNoHeights(t, b, []int{0, 1})
			}
		}
	}
}

// P14.1: all short texts of few values, bytes 0 and from 128 on among them.
func TestAllShortTexts(t *testing.T) {
	for _, x := range []struct {
		most   int
		values string
	}{{12, "\x00\x01"}, {10, "\x7f\x80"}, {7, "\x00\x80\xff"}, {5, "\xff\xfe\x01\x00"}} {
		eachText(x.most, x.values, func(b []byte) { wantText(t, b) })
	}
}

// P14.1, P14.3: all bytes alike: each end begins with the one ahead.
func TestLikeBytes(t *testing.T) {
	for _, v := range []byte{0, 1, 'a', 127, 128, 254, 255} {
		for n := range 140 {
			wantHeights(t, like(v, n), falling(n), rising(n)...)
		}
		wantPairs(t, like(v, 40))
	}
}

// P14.1: all bytes alike but one, at each place.
func TestLikeBytesButOne(t *testing.T) {
	for _, n := range []int{2, 3, 15, 16, 17, 40} {
		for i := range n {
			for _, v := range []byte{0, 127, 128, 255} {
				b := like(v, n)
				b[i] = 64
				wantText(t, b)
				b[i] = 192
				wantText(t, b)
			}
		}
	}
}

// P14.1, P14.3: a part repeated, twice and many times, and nearly so: with a byte more, a byte less, or one that is another at each place.
func TestParts(t *testing.T) {
	for _, part := range []string{"ab", "ba", "abc", "aab", "abcab", "\x00\xff", "\xff\x00\x80", "\x80\x7f\x80\x00", string(grown(21))} {
		for _, times := range []int{1, 2, 3, 8, 11} {
			b := slices.Repeat([]byte(part), times)
			wantPairs(t, b)
			wantText(t, b)
			wantText(t, b[1:])
			wantText(t, b[:len(b)-1])
			wantText(t, append(slices.Clone(b), part[0]))
			wantText(t, append(slices.Clone(b), part[0]+1))
			wantText(t, append([]byte{part[0] - 1}, b...))
			for i := range b {
				other := slices.Clone(b)
				other[i]++
				wantText(t, other)
				other[i] -= 2
				wantText(t, other)
			}
		}
	}
}

// P14.1: all 256 values, rising and falling: nothing is common to any two; and once more, so that each has one that is alike.
func TestAllValues(t *testing.T) {
	up := allValues()
	down := slices.Clone(up)
	slices.Reverse(down)
	none := make([]int, 256)
	wantHeights(t, up, rising(256), none...)
	wantHeights(t, down, falling(256), none...)
	for from := 0; from < 256; from += 15 {
		for _, b := range [][]byte{slices.Concat(up[from:], up[:from]), slices.Concat(down[from:], down[:from])} {
			for times := range 3 {
				wantText(t, slices.Repeat(b, times+1))
				wantText(t, append(slices.Repeat(b, times+1), up[:from]...))
			}
		}
	}
	wantText(t, slices.Concat(up, down))
	wantText(t, slices.Concat(down, up))
}

// P14.1: a byte from 128 on is behind those below, and a byte 0 is a byte that may be alike.
func TestValuesAtEdges(t *testing.T) {
	wantHeights(t, []byte{255, 128, 127, 1, 0}, falling(5), 0, 0, 0, 0, 0)
	wantHeights(t, []byte{0, 127, 128, 255}, rising(4), 0, 0, 0, 0)
	wantHeights(t, []byte{0, 0, 0}, falling(3), 0, 1, 2)
	wantHeights(t, []byte{1, 0, 1}, []int{1, 2, 0}, 0, 0, 1)
	wantHeights(t, []byte{0, 1, 0}, []int{2, 0, 1}, 0, 1, 0)
	wantHeights(t, []byte{255, 255, 0, 255, 255}, []int{2, 4, 1, 3, 0}, 0, 0, 1, 1, 2)
	wantNoHeights(t, []byte{127, 128}, []int{1, 0})
	wantNoHeights(t, []byte{0, 0}, []int{0, 1})
}

// P14.1: texts two ends of which differ at each of the first bytes, up to the last one only.
func TestFirstUnlikeByte(t *testing.T) {
	for n := range 70 {
		b := append(like('b', n), 'c')
		wantText(t, slices.Concat(b, b))
		wantText(t, slices.Concat(b, like('b', n), []byte("a")))
		wantText(t, slices.Concat(b, like('b', n), []byte("d")))
		wantText(t, slices.Concat(b, like('b', n)))
		wantText(t, slices.Concat(like('b', n+1), b))
	}
}

// P14.1, P14.3: rough texts, of two values and of more.
func TestRoughTexts(t *testing.T) {
	r := source(1)
	for range 1500 {
		wantText(t, roughText(r, 200))
	}
	for range 100 {
		wantText(t, roughBytes(r, r.IntN(300), 2))
		wantText(t, grown(r.IntN(300)))
		wantPairs(t, roughText(r, 60))
	}
	for range 8 {
		wantText(t, roughText(r, 4000))
	}
}

// P14.1: of the order that sufsort tells, too.
func TestOrdersOfSufsort(t *testing.T) {
	r := source(2)
	for range 300 {
		b := roughText(r, 300)
		wantHeights(t, b, sufsort.Ends(b), plainHeights(b, plainEnds(b))...)
	}
}

// P14.1: of each short text, all rows of numbers up to one number more: those that are none among them, in each mixture; just one is the order.
func TestAllShortRowsAsOrders(t *testing.T) {
	eachText(4, "\x00\xff", func(b []byte) {
		want := plainEnds(b)
		for n := range len(b) + 2 {
			eachRow(n, between(-1, len(b)+1), func(row []int) {
				if slices.Equal(row, want) {
					wantHeights(t, b, row, plainHeights(b, want)...)
				} else {
					wantNoHeights(t, b, row)
				}
			})
		}
	})
}

// P14.1: of each text, all orders of all its places: just one is that of the ends.
func TestAllOrdersOfPlaces(t *testing.T) {
	for _, x := range []struct {
		most   int
		values string
	}{{7, "ab"}, {5, "\x00\x80\xff"}} {
		eachText(x.most, x.values, func(b []byte) {
			want := plainEnds(b)
			eachOrder(len(b), func(row []int) {
				if slices.Equal(row, want) {
					wantHeights(t, b, row, plainHeights(b, want)...)
				} else {
					wantNoHeights(t, b, row)
				}
			})
		})
	}
}

// eachOrder goes through all orders of the numbers from 0 to less than n.
func eachOrder(n int, do func(row []int)) {
	row := rising(n)
	var each func(i int)
	each = func(i int) {
		if i == n {
			do(row)
			return
		}
		for j := i; j < n; j++ {
			row[i], row[j] = row[j], row[i]
			each(i + 1)
			row[i], row[j] = row[j], row[i]
		}
	}
	each(0)
}

// variedTexts are a few texts, of which each has another order or other heights.
func variedTexts() [][]byte {
	r := source(3)
	return [][]byte{
		[]byte("a"), []byte("aa"), []byte("ab"), []byte("ba"), []byte("banana"), []byte("mississippi"),
		like(0, 50), like(255, 33), fill("ab", 40), fill("aab", 41), grown(60), allValues(),
		roughBytes(r, 80, 2), roughBytes(r, 80, 256), append(like('b', 40), 'a'),
	}
}

// P14.1: an order with one number too few or one too many, at each place, or with none.
func TestOrdersOfAnotherLength(t *testing.T) {
	for _, b := range variedTexts() {
		order := plainEnds(b)
		n := len(b)
		wantNoHeights(t, b, nil)
		wantNoHeights(t, b, []int{})
		wantNoHeights(t, nil, order)
		wantNoHeights(t, b[1:], order)
		wantNoHeights(t, b[:n-1], order)
		wantNoHeights(t, append(slices.Clone(b), 'b'), order)
		wantNoHeights(t, b, slices.Concat(order, order))
		for i := range n {
			wantNoHeights(t, b, slices.Delete(slices.Clone(order), i, i+1))
			for _, v := range []int{-1, 0, i, n - 1, n, n + 1, math.MinInt, math.MaxInt} {
				wantNoHeights(t, b, slices.Insert(slices.Clone(order), i, v))
			}
		}
		wantNoHeights(t, b, append(slices.Clone(order), n))
		wantNoHeights(t, b, append(slices.Clone(order), 0))
	}
}

// P14.1: an order in which one number stands twice, is below 0 or too great, also the least and the greatest, at each place.
func TestOrdersWithAnotherNumber(t *testing.T) {
	for _, b := range variedTexts() {
		order := plainEnds(b)
		n := len(b)
		for i := range n {
			wrongs := []int{-1, -2, n, n + 1, -n, 2 * n, math.MinInt, math.MinInt + 1, math.MaxInt, math.MaxInt - 1, math.MinInt32, math.MaxInt32, 1 << 32, order[i] + 1<<32, order[i] | math.MinInt}
			if n > 1 {
				wrongs = append(wrongs, order[(i+1)%n], order[(i+n-1)%n])
			}
			for _, wrong := range wrongs {
				other := slices.Clone(order)
				other[i] = wrong
				wantNoHeights(t, b, other)
			}
		}
	}
}

// P14.1: an order in which any two places have changed places, neighbours or others.
func TestOrdersWithTwoChanged(t *testing.T) {
	for _, b := range variedTexts() {
		order := plainEnds(b)
		for i := range order {
			for j := range i {
				other := slices.Clone(order)
				other[i], other[j] = other[j], other[i]
				wantNoHeights(t, b, other)
			}
		}
	}
}

// P14.1: whole orders that are others: turned round, moved on, told by places, of rotations, of plain places.
func TestOtherOrders(t *testing.T) {
	r := source(4)
	texts := variedTexts()
	for range 300 {
		texts = append(texts, roughText(r, 60))
	}
	for _, b := range texts {
		order := plainEnds(b)
		back := slices.Clone(order)
		slices.Reverse(back)
		others := [][]int{back, rising(len(b)), falling(len(b)), sufsort.Places(order), sufsort.Rotations(b)}
		for i := range order {
			others = append(others, slices.Concat(order[i:], order[:i]))
		}
		for _, other := range others {
			if !slices.Equal(other, order) {
				wantNoHeights(t, b, other)
			}
		}
	}
	wantNoHeights(t, []byte("abaab"), []int{2, 0, 3, 1, 4})
	wantNoHeights(t, []byte("abab"), []int{0, 2, 1, 3})
}

// P14.1: the order of another text, that is as long, is one just where it is the same order.
func TestOrdersOfOtherTexts(t *testing.T) {
	var texts [][]byte
	eachText(7, "\x00\xff", func(b []byte) {
		if len(b) == 7 {
			texts = append(texts, b)
		}
	})
	for _, b := range texts {
		want := plainEnds(b)
		for _, other := range texts {
			if order := plainEnds(other); slices.Equal(order, want) {
				wantHeights(t, b, order, plainHeights(b, want)...)
			} else {
				wantNoHeights(t, b, order)
			}
		}
	}
}

// P14.2: all short rows, and all p and q: the least behind p, up to q, by plain looking.
func TestAllShortRowsAsHeights(t *testing.T) {
	for n := range 6 {
		eachRow(n, between(-1, 2), func(row []int) { wantRow(t, row) })
	}
	eachRow(4, []int{math.MinInt, -1, 0, math.MaxInt - 1, math.MaxInt}, func(row []int) { wantRow(t, row) })
}

// wantRow asks for what is common at all p and q of a row, and around it.
func wantRow(t *testing.T, row []int) {
	t.Helper()
	for p := -2; p < len(row)+2; p++ {
		for q := -2; q < len(row)+2; q++ {
			if p < 0 || q >= len(row) || p >= q {
				wantNoCommon(t, row, p, q)
				continue
			}
			want := row[p+1]
			for _, v := range row[p+1 : q+1] {
				if v < want {
					want = v
				}
			}
			wantCommon(t, row, p, q, want)
		}
	}
}

// P14.2: the one at p plays no part, the one at q does, and so does each between them; those ahead of p and behind q play none.
func TestWhichHeightsPlayAPart(t *testing.T) {
	const n = 9
	for p := range n {
		for q := p + 1; q < n; q++ {
			for i := range n {
				row := slices.Repeat([]int{7}, n)
				row[i] = 3
				want := 7
				if i > p && i <= q {
					want = 3
				}
				wantCommon(t, row, p, q, want)
			}
		}
	}
}

// P14.2: p equal to q and above it, p below 0, q at the number of heights and above it, the least and the greatest.
func TestCommonOfOtherPlaces(t *testing.T) {
	edges := []int{math.MinInt, math.MinInt + 1, math.MinInt32, -1 << 32, -2, -1, 0, 1, 2, 3, 1 << 32, math.MaxInt32, math.MaxInt - 1, math.MaxInt}
	rows := [][]int{nil, {}, {5}, {5, 6}, {0, 1, 2}, {math.MaxInt, math.MaxInt, math.MaxInt}, {math.MinInt, math.MinInt, math.MinInt}}
	for _, row := range rows {
		for _, p := range edges {
			for _, q := range edges {
				if p < 0 || q >= len(row) || p >= q {
					wantNoCommon(t, row, p, q)
				}
			}
		}
	}
	row := []int{0, 1, 3, 0, 0, 2}
	for _, pq := range [][2]int{{0, 0}, {5, 5}, {6, 6}, {3, 2}, {5, 0}, {-1, 0}, {-1, 5}, {0, 6}, {4, 6}, {5, 6}, {0, 7}, {6, 7}, {-1, -1}, {-2, -1}, {-1, 6}} {
		wantNoCommon(t, row, pq[0], pq[1])
	}
}

// P14.2: heights that are no text's are as good: below 0, the least and the greatest numbers, a first one that is not 0.
func TestHeightsOfNoText(t *testing.T) {
	row := []int{9, -4, math.MaxInt, 100, math.MinInt, 0, 1 << 40}
	wantRow(t, row)
	wantCommon(t, row, 0, 1, -4)
	wantCommon(t, row, 1, 2, math.MaxInt)
	wantCommon(t, row, 1, 3, 100)
	wantCommon(t, row, 0, 6, math.MinInt)
	wantCommon(t, row, 4, 6, 0)
	wantCommon(t, row, 5, 6, 1<<40)
	r := source(5)
	for range 50 {
		rough := make([]int, r.IntN(40))
		for i := range rough {
			rough[i] = int(r.Uint64())
		}
		wantRow(t, rough)
	}
}

// P14.3: all short texts: of all p below q what is common to the places there; a neighbour has no less than one further off.
func TestCommonOfAllShortTexts(t *testing.T) {
	eachText(10, "\x00\x01", func(b []byte) { wantPairs(t, b) })
	eachText(6, "\x00\x80\xff", func(b []byte) { wantPairs(t, b) })
	eachText(4, "\xff\xfe\x01\x00", func(b []byte) { wantPairs(t, b) })
	for _, b := range variedTexts() {
		wantPairs(t, b)
	}
}
