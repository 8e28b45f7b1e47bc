package lcp_test

import (
	"bytes"
	"math/rand/v2"
	"slices"
)

func source(seed uint64) *rand.Rand { return rand.New(rand.NewPCG(14, seed)) }

// plainCommon counts the bytes that are alike from two places on, one by one.
func plainCommon(b []byte, p, q int) int {
	for n := 0; ; n++ {
		if p+n >= len(b) || q+n >= len(b) || b[p+n] != b[q+n] {
			return n
		}
	}
}

// plainEnds is the order of ends by plain sorting.
func plainEnds(b []byte) []int {
	places := rising(len(b))
	slices.SortFunc(places, func(p, q int) int { return bytes.Compare(b[p:], b[q:]) })
	return places
}

// plainHeights is what is common to each place of an order and the one ahead, each counted by itself.
func plainHeights(b []byte, order []int) []int {
	heights := make([]int, len(order))
	for i := 1; i < len(order); i++ {
		heights[i] = plainCommon(b, order[i-1], order[i])
	}
	return heights
}

// rising is the numbers from 0 on, n of them.
func rising(n int) []int {
	l := make([]int, n)
	for i := range l {
		l[i] = i
	}
	return l
}

// falling is the same numbers, the last one first.
func falling(n int) []int {
	l := rising(n)
	slices.Reverse(l)
	return l
}

// eachText goes through all texts of up to n of these bytes.
func eachText(n int, values string, do func(b []byte)) {
	var each func(b []byte)
	each = func(b []byte) {
		do(b)
		if len(b) < n {
			for _, v := range []byte(values) {
				each(append(slices.Clone(b), v))
			}
		}
	}
	each(nil)
}

// eachRow goes through all rows of n of these numbers.
func eachRow(n int, values []int, do func(row []int)) {
	row := make([]int, n)
	var each func(i int)
	each = func(i int) {
		if i == n {
			do(row)
			return
		}
		for _, v := range values {
			row[i] = v
			each(i + 1)
		}
	}
	each(0)
}

// between is the numbers from least to most.
func between(least, most int) []int {
	var l []int
	for v := least; v <= most; v++ {
		l = append(l, v)
	}
	return l
}

// like is n bytes of one value.
func like(v byte, n int) []byte { return slices.Repeat([]byte{v}, n) }

// fill is n bytes of a part that is repeated as often as need be.
func fill(part string, n int) []byte { return slices.Repeat([]byte(part), n/len(part)+1)[:n] }

// roughBytes is n bytes of so many values, the greatest ones that there are.
func roughBytes(r *rand.Rand, n, values int) []byte {
	b := make([]byte, n)
	for i := range b {
		b[i] = byte(255 - r.IntN(values))
	}
	return b
}

// roughText is up to n bytes of few values or of many, parts of which stand there more than once.
func roughText(r *rand.Rand, n int) []byte {
	b := roughBytes(r, r.IntN(n+1), []int{1, 2, 3, 20, 256}[r.IntN(5)])
	for range r.IntN(4) {
		if len(b) > 0 {
			from, to := r.IntN(len(b)), r.IntN(len(b))
			copy(b[to:], slices.Clone(b[from:]))
		}
	}
	return b
}

// grown is the first n bytes of a text that grows by what it was ahead of the last time: none of it is a part repeated, but much of it nearly is.
func grown(n int) []byte {
	ahead, b := []byte("a"), []byte("ab")
	for len(b) < n {
		ahead, b = b, slices.Concat(b, ahead)
	}
	return b[:n]
}

// allValues is each value of a byte once, rising.
func allValues() []byte {
	b := make([]byte, 256)
	for i := range b {
		b[i] = byte(i)
	}
	return b
}
