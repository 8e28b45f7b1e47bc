package sufsort_test

import (
	"math/rand/v2"
	"slices"
)

func source(seed uint64) *rand.Rand { return rand.New(rand.NewPCG(13, seed)) }

// compare holds two texts against each other byte by byte: -1, if the first one comes first, 0, if they are alike, 1 else.
func compare(a, b []byte) int {
	for i := range min(len(a), len(b)) {
		if a[i] != b[i] {
			return sign(int(a[i]) - int(b[i]))
		}
	}
	return sign(len(a) - len(b))
}

func sign(n int) int { return min(max(n, -1), 1) }

func rotation(b []byte, place int) []byte { return slices.Concat(b[place:], b[:place]) }

// compareRotations is compare of the rotations from two places on, which need not be laid out for that.
func compareRotations(b []byte, p, q int) int {
	for i := range b {
		if v, w := b[(p+i)%len(b)], b[(q+i)%len(b)]; v != w {
			return sign(int(v) - int(w))
		}
	}
	return 0
}

// rising is the numbers from 0 on, n of them.
func rising(n int) []int {
	l := make([]int, n)
	for i := range l {
		l[i] = i
	}
	return l
}

// falling is the same numbers, the last one first.
func falling(n int) []int {
	l := rising(n)
	slices.Reverse(l)
	return l
}

// plainEnds is the order of ends by plain sorting.
func plainEnds(b []byte) []int {
	places := rising(len(b))
	slices.SortFunc(places, func(p, q int) int { return compare(b[p:], b[q:]) })
	return places
}

// plainRotations is the order of rotations by plain sorting, that keeps the order of like ones.
func plainRotations(b []byte) []int {
	places := rising(len(b))
	slices.SortStableFunc(places, func(p, q int) int { return compareRotations(b, p, q) })
	return places
}

// partOf is how many bytes the shortest part has of which the text is made, repeated: the text itself, if there is no shorter one.
func partOf(b []byte) int {
	for n := 1; n < len(b); n++ {
		if len(b)%n == 0 && isRepeated(b, n) {
			return n
		}
	}
	return len(b)
}

// isRepeated tells whether each byte is that n bytes ahead.
func isRepeated(b []byte, n int) bool {
	for i := n; i < len(b); i++ {
		if b[i] != b[i-n] {
			return false
		}
	}
	return true
}

// isWhole tells whether a row has all numbers from 0 to its length less 1, each once.
func isWhole(row []int) bool {
	seen := make([]bool, len(row))
	for _, v := range row {
		if v < 0 || v >= len(row) || seen[v] {
			return false
		}
		seen[v] = true
	}
	return true
}

// eachText goes through all texts of up to n of these bytes.
func eachText(n int, values string, do func(b []byte)) {
	var each func(b []byte)
	each = func(b []byte) {
		do(b)
		if len(b) < n {
			for _, v := range []byte(values) {
				each(append(slices.Clone(b), v))
			}
		}
	}
	each(nil)
}

// eachRow goes through all rows of n numbers from least to most.
func eachRow(n, least, most int, do func(row []int)) {
	row := make([]int, n)
	var each func(i int)
	each = func(i int) {
		if i == n {
			do(row)
			return
		}
		for v := least; v <= most; v++ {
			row[i] = v
			each(i + 1)
		}
	}
	each(0)
}

// like is n bytes of one value.
func like(v byte, n int) []byte { return slices.Repeat([]byte{v}, n) }

// fill is n bytes of a part that is repeated as often as need be.
func fill(part string, n int) []byte { return slices.Repeat([]byte(part), n/len(part)+1)[:n] }

// roughBytes is n bytes of so many values, the greatest ones that there are.
func roughBytes(r *rand.Rand, n, values int) []byte {
	b := make([]byte, n)
	for i := range b {
		b[i] = byte(255 - r.IntN(values))
	}
	return b
}

// roughText is up to n bytes of few values or of many, parts of which stand there more than once.
func roughText(r *rand.Rand, n int) []byte {
	b := roughBytes(r, r.IntN(n+1), []int{1, 2, 3, 20, 256}[r.IntN(5)])
	for range r.IntN(4) {
		if len(b) > 0 {
			from, to := r.IntN(len(b)), r.IntN(len(b))
			copy(b[to:], slices.Clone(b[from:]))
		}
	}
	return b
}

// grown is the first n bytes of a text that grows by what it was ahead of the last time: none of it is a part repeated, but much of it nearly is.
func grown(n int) []byte {
	ahead, b := []byte("a"), []byte("ab")
	for len(b) < n {
		ahead, b = b, slices.Concat(b, ahead)
	}
	return b[:n]
}
