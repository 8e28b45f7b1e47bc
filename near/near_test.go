package near_test

import (
	"math"
	"slices"
	"testing"

	"presswork/near"
)

// short is the beginning of a row, as failures tell it.
func short(l []int) []int { return l[:min(len(l), 100)] }

func wantAhead(t *testing.T, l []int, want ...int) {
	t.Helper()
	if got := near.Ahead(l); !slices.Equal(got, want) {
		t.Fatalf("Ahead(%d: %v) = %d: %v, want %v", len(l), short(l), len(got), short(got), short(want))
	}
}

func wantBehind(t *testing.T, l []int, want ...int) {
	t.Helper()
	if got := near.Behind(l); !slices.Equal(got, want) {
		t.Fatalf("Behind(%d: %v) = %d: %v, want %v", len(l), short(l), len(got), short(got), short(want))
	}
}

// wantRow holds both ways against plain looking, and asks for what follows.
func wantRow(t *testing.T, l []int) {
	t.Helper()
	wantAhead(t, l, plainAhead(l)...)
	wantBehind(t, l, plainBehind(l)...)
	wantNoLesserBetween(t, l)
	wantTurned(t, l)
}

// wantNoLesserBetween asks that a lesser number stands at each place's nearest ones, and none between these and the place.
func wantNoLesserBetween(t *testing.T, l []int) {
	t.Helper()
	ahead, behind := near.Ahead(l), near.Behind(l)
	if len(ahead) != len(l) || len(behind) != len(l) {
		t.Fatalf("%d places have %d and %d", len(l), len(ahead), len(behind))
	}
	for i, v := range l {
		p, q := ahead[i], behind[i]
		if p < -1 || p >= i || q <= i || q > len(l) {
			t.Fatalf("%v: %d has %d and %d", short(l), i, p, q)
		}
		if p >= 0 && l[p] >= v || q < len(l) && l[q] >= v {
			t.Fatalf("%v: %d has %d and %d, where no lesser number stands", short(l), i, p, q)
		}
		if slices.Min(l[p+1:q]) < v {
			t.Fatalf("%v: %d has %d and %d, with a lesser number between", short(l), i, p, q)
		}
	}
}

// wantTurned asks that the row turned round has its nearest ones turned round.
func wantTurned(t *testing.T, l []int) {
	t.Helper()
	other := turned(l)
	wantBehind(t, other, mirror(near.Ahead(l))...)
	wantAhead(t, other, mirror(near.Behind(l))...)
}

// mirror turns a row of places round, and each place too.
func mirror(places []int) []int {
	n := len(places)
	l := make([]int, n)
	for i, p := range places {
		l[n-1-i] = n - 1 - p
	}
	return l
}

// P15.1, P15.2: the chapter's examples.
func TestExamples(t *testing.T) {
	wantAhead(t, []int{3, 1, 2, 1, 5}, -1, -1, 1, -1, 3)
	wantBehind(t, []int{3, 1, 2, 1, 5}, 1, 5, 3, 5, 5)
	wantAhead(t, nil)
	wantAhead(t, []int{2, 2}, -1, -1)
	wantBehind(t, []int{2, 2}, 2, 2)
}

// P15.1, P15.2: rows told by hand.
func TestByHand(t *testing.T) {
	wantAhead(t, []int{1, 3, 5, 4, 2}, -1, 0, 1, 1, 0)
	wantBehind(t, []int{1, 3, 5, 4, 2}, 5, 4, 3, 4, 5)
	wantAhead(t, []int{5, 3, 1, 2, 4}, -1, -1, -1, 2, 3)
	wantBehind(t, []int{5, 3, 1, 2, 4}, 1, 2, 5, 5, 5)
	wantAhead(t, []int{0, 7, 7, 7, 0}, -1, 0, 0, 0, -1)
	wantBehind(t, []int{0, 7, 7, 7, 0}, 5, 4, 4, 4, 5)
	wantAhead(t, []int{4, 0, 4, 4, 1, 4}, -1, -1, 1, 1, 1, 4)
	wantBehind(t, []int{4, 0, 4, 4, 1, 4}, 1, 6, 4, 4, 6, 6)
	wantAhead(t, []int{2, 1, 2, 1, 2, 1}, -1, -1, 1, -1, 3, -1)
	wantBehind(t, []int{2, 1, 2, 1, 2, 1}, 1, 6, 3, 6, 5, 6)
	wantAhead(t, []int{-1, -2, 0, -3, -2}, -1, -1, 1, -1, 3)
	wantBehind(t, []int{-1, -2, 0, -3, -2}, 1, 3, 3, 5, 5)
}

// P15.1, P15.2, R6: no numbers, one, and two.
func TestFewNumbers(t *testing.T) {
	for _, none := range [][]int{nil, {}, make([]int, 0, 9)} {
		wantAhead(t, none)
		wantBehind(t, none)
	}
	values := []int{math.MinInt, math.MinInt + 1, math.MinInt32, -2, -1, 0, 1, 2, 1 << 32, math.MaxInt - 1, math.MaxInt}
	for i, v := range values {
		wantAhead(t, []int{v}, -1)
		wantBehind(t, []int{v}, 1)
		for j, w := range values {
			ahead, behind := -1, 2
			if i < j {
				ahead = 0
			}
			if j < i {
				behind = 1
			}
			wantAhead(t, []int{v, w}, -1, ahead)
			wantBehind(t, []int{v, w}, behind, 2)
		}
	}
}

// P15.1 to P15.3: all short rows of few values.
func TestAllShortRows(t *testing.T) {
	eachRow(12, []int{0, 1}, func(l []int) { wantRow(t, l) })
	eachRow(8, []int{-1, 0, 1}, func(l []int) { wantRow(t, l) })
	eachRow(6, []int{3, 1, 2, 0}, func(l []int) { wantRow(t, l) })
	eachRow(5, []int{math.MinInt, math.MaxInt, 0, -1, math.MinInt + 1}, func(l []int) { wantRow(t, l) })
}

// P15.1, P15.2: a number that is the same is not a lesser one.
func TestLikeNumbers(t *testing.T) {
	for _, v := range []int{math.MinInt, -7, -1, 0, 1, 9, math.MaxInt} {
		for n := range 70 {
			wantAhead(t, like(v, n), like(-1, n)...)
			wantBehind(t, like(v, n), like(n, n)...)
			wantRow(t, like(v, n))
		}
	}
}

// P15.1, P15.2: all alike but one that is less or greater, at each place.
func TestLikeNumbersButOne(t *testing.T) {
	for _, n := range []int{1, 2, 3, 8, 30} {
		for at := range n {
			less, more := like(5, n), like(5, n)
			less[at], more[at] = 4, 6
			wantAhead(t, less, slices.Concat(like(-1, at+1), like(at, n-at-1))...)
			wantBehind(t, less, slices.Concat(like(at, at), like(n, n-at))...)

			ahead, behind := like(-1, n), like(n, n)
			ahead[at] = at - 1
			behind[at] = at + 1
			wantAhead(t, more, ahead...)
			wantBehind(t, more, behind...)
		}
	}
}

// P15.1, P15.2: rising, falling, rising and then falling, falling and then rising, also with each number twice.
func TestRisingAndFalling(t *testing.T) {
	for n := range 60 {
		for _, least := range []int{math.MinInt, -n, -n / 2, 0, 1, math.MaxInt - 60} {
			up, down := rising(least, n), falling(least, n)
			wantAhead(t, up, rising(-1, n)...)
			wantBehind(t, up, like(n, n)...)
			wantAhead(t, down, like(-1, n)...)
			wantBehind(t, down, rising(1, n)...)
			wantRow(t, slices.Concat(up, down))
			wantRow(t, slices.Concat(down, up))
			wantRow(t, slices.Concat(up, up, down, down))
			wantRow(t, slices.Concat(down, down, up, up))
			wantRow(t, twice(up))
			wantRow(t, twice(down))
			wantRow(t, twice(slices.Concat(up, down, up)))
		}
	}
	wantAhead(t, slices.Concat(rising(0, 3), falling(0, 3)), -1, 0, 1, 1, 0, -1)
	wantBehind(t, slices.Concat(rising(0, 3), falling(0, 3)), 6, 5, 4, 4, 5, 6)
	wantAhead(t, slices.Concat(falling(0, 3), rising(0, 3)), -1, -1, -1, -1, 3, 4)
	wantBehind(t, slices.Concat(falling(0, 3), rising(0, 3)), 1, 2, 6, 6, 6, 6)
}

// twice is each number of a row two times, one behind the other.
func twice(l []int) []int {
	var all []int
	for _, v := range l {
		all = append(all, v, v)
	}
	return all
}

// P15.1 to P15.3: a part repeated, and nearly so.
func TestParts(t *testing.T) {
	for _, part := range [][]int{{0, 1}, {1, 0}, {1, 2, 3}, {3, 2, 1}, {2, 1, 2}, {1, 2, 1, 3}, {-1, 4, 4, -1}, ruler(15), {math.MinInt, math.MaxInt}} {
		for times := range 9 {
			l := slices.Repeat(part, times)
			wantRow(t, l)
			wantRow(t, append(slices.Clone(l), part[0]))
			wantRow(t, append(slices.Clone(part[1:]), l...))
			for i := range l {
				for _, more := range []int{-1, 1} {
					other := slices.Clone(l)
					other[i] += more
					wantRow(t, other)
				}
			}
		}
	}
}

// P15.1, P15.2: numbers below 0, and the least and the greatest ones, whose difference is no int.
func TestNumbersAtEdges(t *testing.T) {
	least, most := math.MinInt, math.MaxInt
	wantAhead(t, []int{most, least, most}, -1, -1, 1)
	wantBehind(t, []int{most, least, most}, 1, 3, 3)
	wantAhead(t, []int{least, most, least}, -1, 0, -1)
	wantBehind(t, []int{least, most, least}, 3, 2, 3)
	wantAhead(t, []int{least, least + 1, most - 1, most}, -1, 0, 1, 2)
	wantBehind(t, []int{most, most - 1, least + 1, least}, 1, 2, 3, 4)
	wantAhead(t, []int{-1, 0, 1, 1 << 32, math.MinInt32, -1 << 32}, -1, 0, 1, 2, -1, -1)
	wantBehind(t, []int{-1, 0, 1, 1 << 32, math.MinInt32, -1 << 32}, 4, 4, 4, 4, 5, 6)
	wantAhead(t, []int{least, 0, -1, least, -1}, -1, 0, 0, -1, 3)
	wantBehind(t, []int{-1, 0, -1, least, -1}, 3, 2, 3, 5, 5)
}

// P15.1, P15.2: the nearest lesser one stands at each place ahead or behind, however far off, with numbers between that are the same or greater.
func TestFarOff(t *testing.T) {
	for far := 1; far < 200; far += 7 {
		for _, between := range [][]int{like(5, far), like(6, far), like(math.MaxInt, far), rising(5, far), falling(5, far)} {
			l := slices.Concat([]int{3, 4}, between, []int{5}, between, []int{4, 3})
			at := 2 + far
			if ahead, behind := near.Ahead(l)[at], near.Behind(l)[at]; ahead != 1 || behind != 3+2*far {
				t.Fatalf("%v: %d and %d", l, ahead, behind)
			}
			wantRow(t, l)
		}
	}
}

// P15.1 to P15.3: rough rows of few values and of many, longer and shorter.
func TestRoughRows(t *testing.T) {
	r := source(1)
	for range 1500 {
		l := rough(r, r.IntN(120), []int{1, 2, 3, 10, 1000, 1 << 40}[r.IntN(6)])
		if r.IntN(3) == 0 {
			slices.Sort(l[r.IntN(len(l)+1):])
		}
		wantRow(t, l)
		wantRow(t, walk(r, r.IntN(120)))
	}
	for range 200 {
		l := make([]int, r.IntN(80))
		for i := range l {
			l[i] = int(r.Uint64())
		}
		wantRow(t, l)
	}
}

// P15.1, P15.2: rows of two values only.
func TestTwoValues(t *testing.T) {
	r := source(2)
	for _, two := range [][2]int{{0, 1}, {-1, 0}, {1, -1}, {math.MinInt, math.MaxInt}, {math.MaxInt, math.MaxInt - 1}} {
		for range 200 {
			l := make([]int, r.IntN(150))
			lesser := 1 + r.IntN(9)
			for i := range l {
				l[i] = two[0]
				if r.IntN(lesser) == 0 {
					l[i] = two[1]
				}
			}
			wantRow(t, l)
		}
	}
}

// P15.1: what stands behind a place plays no part for Ahead.
func TestAheadWithMoreBehind(t *testing.T) {
	r := source(3)
	for range 600 {
		l := rough(r, r.IntN(60), 1+r.IntN(9))
		whole := near.Ahead(l)
		for n := range l {
			wantAhead(t, l[:n:n], whole[:n]...)
			other := slices.Concat(l[:n], rough(r, r.IntN(9), 20))
			if got := near.Ahead(other); !slices.Equal(got[:n], whole[:n]) {
				t.Fatalf("Ahead(%v) = %v, want %v first", other, got, whole[:n])
			}
		}
	}
}

// P15.2: what stands ahead of a place plays no part for Behind, but for the places' numbers.
func TestBehindWithMoreAhead(t *testing.T) {
	r := source(4)
	for range 600 {
		l := rough(r, r.IntN(60), 1+r.IntN(9))
		want := near.Behind(l)
		more := rough(r, r.IntN(30), 20)
		got := near.Behind(slices.Concat(more, l))
		if len(got) != len(more)+len(l) {
			t.Fatalf("%d of %d", len(got), len(more)+len(l))
		}
		for i, p := range got[len(more):] {
			if p-len(more) != want[i] {
				t.Fatalf("Behind(%v, %v) = %v, want %v last", more, l, got, want)
			}
		}
	}
}
