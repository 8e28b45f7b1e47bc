package lcp_test

import (
	"bytes"
	"math"
	"slices"
	"sync"
	"testing"

	"presswork/api"
	"presswork/lcp"
	"presswork/sufsort"
)

const (
	// great is how many bytes the greatest text has that a later layer hands in.
	great = api.Window + api.MaxSegment
	// greater is as many as a block of bzip2 may have.
	greater = 9 * api.Rough
)

// greatTexts are texts of n bytes.
func greatTexts(n int) map[string][]byte {
	r := source(6)
	half := roughBytes(r, n/2, 4)
	runs := make([]byte, 0, n+300)
	for len(runs) < n {
		runs = append(runs, like(byte(r.IntN(3)), 1+r.IntN(300))...)
	}
	return map[string][]byte{
		"bytes 0":           like(0, n),
		"bytes 255":         like(255, n),
		"ab":                fill("ab", n),
		"abc":               fill("abc", n),
		"but the last byte": append(like('a', n-1), 'b'),
		"but the first":     append([]byte{'b'}, like('a', n-1)...),
		"nearly a part":     append(fill("ab", n-1), 'c'),
		"cut short":         fill("ab", n-1),
		"all values anew":   slices.Repeat(allValues(), n/256+1)[:n],
		"half and half":     slices.Concat(half, half),
		"but one byte":      slices.Concat(half, half[:len(half)-1], []byte{0}),
		"grown":             grown(n),
		"runs":              runs[:n],
		"two values":        roughBytes(r, n, 2),
		"all values":        roughBytes(r, n, 256),
	}
}

// P14.1: great texts: so many bytes are alike, and no more.
func TestGreatHeights(t *testing.T) {
	for name, b := range greatTexts(great) {
		order := sufsort.Ends(b)
		heights, e := lcp.Heights(b, order)
		if e != api.OK || len(heights) != len(b) || heights[0] != 0 {
			t.Fatalf("%s: %d of %d: %v", name, len(heights), len(b), e)
		}
		for i := 1; i < len(order); i++ {
			p, q, n := order[i-1], order[i], heights[i]
			if !hasCommon(b, p, q, n) {
				t.Fatalf("%s: %d common to %d and %d", name, n, p, q)
			}
		}
		wantGreatPairs(t, name, b, order, heights)
	}
}

// hasCommon tells whether just n bytes are common to two places.
func hasCommon(b []byte, p, q, n int) bool {
	if n < 0 || max(p, q)+n > len(b) || !bytes.Equal(b[p:p+n], b[q:q+n]) {
		return false
	}
	return max(p, q)+n == len(b) || b[p+n] != b[q+n]
}

// wantGreatPairs asks for what is common to the places at some p and q of a great text's order, near ones and far ones.
func wantGreatPairs(t *testing.T, name string, b []byte, order, heights []int) {
	t.Helper()
	r := source(7)
	for far := 1; far < len(order); far *= 2 {
		for range 20 {
			p := r.IntN(len(order) - far)
			q := p + far
			n, e := lcp.Common(heights, p, q)
			if e != api.OK || !hasCommon(b, order[p], order[q], n) {
				t.Fatalf("%s: %d common at %d and %d: %v", name, n, p, q, e)
			}
			wantNoLessThanFurther(t, heights, p, q)
		}
	}
	n, e := lcp.Common(heights, 0, len(order)-1)
	if e != api.OK || !hasCommon(b, order[0], order[len(order)-1], n) {
		t.Fatalf("%s: %d common to the first and the last: %v", name, n, e)
	}
}

// P14.1, P14.2: texts that are greater still, whose heights are known: as few steps for each byte as the chapter's way needs.
func TestGreaterHeights(t *testing.T) {
	for _, n := range []int{great, greater} {
		wantHeights(t, like('a', n), falling(n), rising(n)...)
		wantCommon(t, rising(n), 0, n-1, 1)
		wantCommon(t, rising(n), n-2, n-1, n-1)
		wantCommon(t, falling(n), 0, n-1, 0)
		wantNoCommon(t, rising(n), 0, n)
		wantNoHeights(t, like('a', n), rising(n))
		wantNoHeights(t, like('a', n), falling(n-1))

		// The a's, the last one first, are all ahead of the b's; each end is two bytes longer than the one ahead, that it begins with.
		order, heights := make([]int, n), make([]int, n)
		for i := range n / 2 {
			order[i], heights[i] = n-2-2*i, 2*i
			order[n/2+i], heights[n/2+i] = n-1-2*i, max(2*i-1, 0)
		}
		wantHeights(t, fill("ab", n), order, heights...)
	}
}

// P14.1: great orders that are not quite that of the ends.
func TestGreatOrdersThatAreOthers(t *testing.T) {
	for _, b := range greatTexts(great) {
		order := sufsort.Ends(b)
		for _, i := range []int{1, len(order) / 2, len(order) - 1} {
			other := slices.Clone(order)
			other[i-1], other[i] = other[i], other[i-1]
			wantNoHeights(t, b, other)
			for _, wrong := range []int{-1, len(b), order[i-1], math.MinInt, math.MaxInt} {
				other = slices.Clone(order)
				other[i] = wrong
				wantNoHeights(t, b, other)
			}
		}
		wantNoHeights(t, b, order[1:])
		wantNoHeights(t, b, append(slices.Clone(order), len(b)))
		wantNoHeights(t, b[1:], order)
	}
}

// R3: bytes and orders are neither changed nor kept, with the room behind their ends, which plays no part; heights are new memory.
func TestMemoryOfHeights(t *testing.T) {
	r := source(8)
	for range 200 {
		b := roughText(r, 100)
		order := plainEnds(b)
		want := plainHeights(b, order)
		byteRoom, orderRoom := slices.Concat(b, []byte("\x00\xffroom")), slices.Concat(order, []int{0, -1, 77})
		byteWhole, orderWhole := slices.Clone(byteRoom), slices.Clone(orderRoom)
		first, _ := lcp.Heights(byteRoom[:len(b)], orderRoom[:len(b)])
		second, _ := lcp.Heights(byteRoom[:len(b)], orderRoom[:len(b)])
		if !bytes.Equal(byteRoom, byteWhole) || !slices.Equal(orderRoom, orderWhole) {
			t.Fatalf("%x, %v became %x, %v", byteWhole, orderWhole, byteRoom, orderRoom)
		}
		clear(byteRoom)
		overwrite(orderRoom)
		if !slices.Equal(first, want) || !slices.Equal(second, want) {
			t.Fatalf("%x: %v, %v, want %v", b, first, second, want)
		}
		overwrite(first)
		if !slices.Equal(second, want) || !slices.Equal(order, plainEnds(b)) {
			t.Fatalf("%x: an answer shares memory", b)
		}
		wantHeights(t, b, order, want...)
	}
}

// overwrite fills a row with another number, with the room behind its end.
func overwrite(row []int) {
	all := row[:cap(row)]
	for i := range all {
		all[i] = 77
	}
}

// R3: an order that is none is not changed either, nor are the bytes.
func TestMemoryOfWrongOrders(t *testing.T) {
	r := source(9)
	for range 200 {
		b := roughText(r, 60)
		order := r.Perm(len(b))
		if len(b) > 0 && r.IntN(2) == 0 {
			order[r.IntN(len(b))] = -1
		}
		bytesAhead, orderAhead := slices.Clone(b), slices.Clone(order)
		lcp.Heights(b, order)
		lcp.Heights(b, append(order, 1))
		if !bytes.Equal(b, bytesAhead) || !slices.Equal(order, orderAhead) {
			t.Fatalf("%x, %v became %x, %v", bytesAhead, orderAhead, b, order)
		}
	}
}

// R3: Common changes no heights, with the room behind their end, which plays no part.
func TestMemoryOfCommon(t *testing.T) {
	room := []int{5, 4, 3, 6, 2, -9, -9}
	whole := slices.Clone(room)
	row := room[:5]
	for p := -1; p < 7; p++ {
		for q := -1; q < 8; q++ {
			lcp.Common(row, p, q)
		}
	}
	wantRow(t, row)
	wantNoCommon(t, row, 0, 5)
	if !slices.Equal(room, whole) {
		t.Fatalf("%v became %v", whole, room)
	}
}

// R2: the same arguments have the same answer, from many goroutines at once, whatever was asked between.
func TestManyAtOnce(t *testing.T) {
	r := source(10)
	type text struct {
		b              []byte
		order, heights []int
	}
	var texts []text
	for range 60 {
		b := roughText(r, 300)
		order := plainEnds(b)
		texts = append(texts, text{b, order, plainHeights(b, order)})
	}
	var all sync.WaitGroup
	for n := range 8 {
		all.Go(func() {
			for i := range 3 * len(texts) {
				x := texts[(i*(n+1)+n)%len(texts)]
				if heights, e := lcp.Heights(x.b, x.order); e != api.OK || !slices.Equal(heights, x.heights) {
					t.Errorf("%x: %v, %v", x.b, heights, e)
				}
				if none, e := lcp.Heights(x.b, append(slices.Clone(x.order), n)); e != api.ErrArg || len(none) != 0 {
					t.Errorf("%x: %v, %v", x.b, none, e)
				}
				if last := len(x.heights) - 1; last > 0 {
					if n, e := lcp.Common(x.heights, last-1, last); e != api.OK || n != x.heights[last] {
						t.Errorf("%v: %d, %v", x.heights, n, e)
					}
				}
			}
		})
	}
	all.Wait()
}
