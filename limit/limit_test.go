package limit_test

import (
	"math"
	"math/rand/v2"
	"slices"
	"sync"
	"testing"

	"presswork/api"
	"presswork/kraft"
	"presswork/limit"
)

const (
	most     = 512
	greatest = 1 << 40
	longest  = 17
)

func like(f, count int) []int { return slices.Repeat([]int{f}, count) }

func and(freq []int, more ...int) []int { return slices.Concat(freq, more) }

// cost is what these lengths cost.
func cost(freq []int, lens []uint8) int {
	sum := 0
	for i, f := range freq {
		sum += f * int(lens[i])
	}
	return sum
}

// used is the frequencies above 0, the greatest first.
func used(freq []int) []int {
	l := slices.DeleteFunc(slices.Clone(freq), func(f int) bool { return f == 0 })
	slices.Sort(l)
	slices.Reverse(l)
	return l
}

// wantLengths asks for these lengths and no others.
func wantLengths(t *testing.T, freq []int, top int, want ...uint8) {
	t.Helper()
	if lens, e := limit.Lengths(freq, top); e != api.OK || !slices.Equal(lens, want) {
		t.Errorf("Lengths(%v, %d) = %v, %v, want %v", freq, top, lens, e, want)
	}
}

// wantNone asks for this error, and for no lengths beside it.
func wantNone(t *testing.T, freq []int, top int, want api.Errno) {
	t.Helper()
	if lens, e := limit.Lengths(freq, top); e != want || len(lens) != 0 {
		t.Errorf("Lengths(%d: %v, %d) = %v, %v, want none, %v", len(freq), freq, top, lens, e, want)
	}
}

// choice is what Lengths answers, held against the chapter's words for a choice, and against what it says of unlike frequencies.
func choice(t *testing.T, freq []int, top int) []uint8 {
	t.Helper()
	lens, e := limit.Lengths(freq, top)
	if e != api.OK || len(lens) != len(freq) {
		t.Fatalf("Lengths(%v, %d) = %v, %v", freq, top, lens, e)
	}
	for i, n := range lens {
		if (n == 0) != (freq[i] == 0) || int(n) > top {
			t.Fatalf("Lengths(%v, %d): symbol %d: %d", freq, top, i, n)
		}
	}
	wantFull(t, lens, len(used(freq)))
	wantRising(t, freq, lens)
	return lens
}

// wantFull asks for a full code of that many words; of one word alone for a single one, of none for none.
func wantFull(t *testing.T, lens []uint8, words int) {
	t.Helper()
	class, e := kraft.Classify(lens)
	switch {
	case e != api.OK:
		t.Fatalf("%v: %v", lens, e)
	case words == 0 && class != kraft.None, words == 1 && !kraft.Single(lens), words > 1 && class != kraft.Full:
		t.Fatalf("%v: %d words, class %d", lens, words, class)
	}
}

// wantRising asks that of two symbols with words, of unlike frequencies, the more frequent one has no longer length.
func wantRising(t *testing.T, freq []int, lens []uint8) {
	t.Helper()
	for i, f := range freq {
		for j, g := range freq {
			if f > g && g > 0 && lens[i] > lens[j] {
				t.Fatalf("%v: %v: symbols %d, %d", freq, lens, i, j)
			}
		}
	}
}

// allChoices is all choices for that many symbols, at least 2.
func allChoices(symbols, top int) [][]uint8 {
	var all [][]uint8
	lens := make([]uint8, symbols)
	var lay func(at int)
	lay = func(at int) {
		if at == symbols {
			if class, _ := kraft.Classify(lens); class == kraft.Full {
				all = append(all, slices.Clone(lens))
			}
			return
		}
		// A full code of n words has none of more than n-1 bits.
		for n := 1; n <= min(top, symbols-1); n++ {
			lens[at] = uint8(n)
			lay(at + 1)
		}
	}
	lay(0)
	return all
}

// leastOf is what the cheapest of these choices costs.
func leastOf(freq []int, all [][]uint8) int {
	least := math.MaxInt
	for _, lens := range all {
		least = min(least, cost(freq, lens))
	}
	return least
}

// leastByRows is what a choice costs at least, bit by bit: with some rows of bits not yet words, each symbol in turn, the more frequent ones first, takes one of them as its word, or all that are left get a bit more, 0 or 1.
// (Of two symbols the more frequent one may always have the shorter word of both, so that no other order has to be tried.)
func leastByRows(freq []int, top int) int {
	l := used(freq)
	n := len(l)
	if n < 2 {
		return cost(l, []uint8{1}[:n])
	}
	left := make([]int, n+1) // what the symbols from a place on have together
	for i := n - 1; i >= 0; i-- {
		left[i] = left[i+1] + l[i]
	}
	const never = math.MaxInt / 2
	longer := table(n, never)
	for range top + 1 {
		now := table(n, never)
		now[n][0] = 0
		for rows := 1; rows <= n; rows++ {
			for at := n - rows; at >= 0; at-- {
				now[at][rows] = now[at+1][rows-1]
				if 2*rows <= n-at {
					now[at][rows] = min(now[at][rows], left[at]+longer[at][2*rows])
				}
			}
		}
		longer = now
	}
	return longer[0][1]
}

// table has a place for each count of symbols from 0 to n, and of rows of bits.
func table(n, v int) [][]int {
	l := make([][]int, n+1)
	for i := range l {
		l[i] = like(v, n+1)
	}
	return l
}

// leastFree is what a choice costs without a limit that counts: the two least frequencies are put together, again and again.
func leastFree(freq []int) (sum, deepest int) {
	type tree struct{ weight, depth int }
	var l []tree
	for _, f := range used(freq) {
		l = append(l, tree{f, 0})
	}
	if len(l) == 1 {
		return l[0].weight, 1
	}
	for len(l) > 1 {
		// Of like weights the shallower ones first, so that the tree is no deeper than need be.
		slices.SortFunc(l, func(a, b tree) int {
			if a.weight != b.weight {
				return b.weight - a.weight
			}
			return b.depth - a.depth
		})
		a, b := l[len(l)-1], l[len(l)-2]
		l = append(l[:len(l)-2], tree{a.weight + b.weight, max(a.depth, b.depth) + 1})
		sum += a.weight + b.weight
	}
	if len(l) == 0 {
		return 0, 0
	}
	return sum, l[0].depth
}

// enough is how many bits a word must be allowed, that so many symbols have a choice.
func enough(symbols int) int {
	n := 1
	for symbols > 1<<n {
		n++
	}
	return n
}

// wantLeast asks for a choice of which none costs less.
func wantLeast(t *testing.T, freq []int, top int) {
	t.Helper()
	lens := choice(t, freq, top)
	if got, want := cost(freq, lens), leastByRows(freq, top); got != want {
		t.Errorf("Lengths(%v, %d) = %v costs %d, another choice %d", freq, top, lens, got, want)
	}
}

// wantLeastAll asks for it with all limits.
func wantLeastAll(t *testing.T, freq []int) {
	t.Helper()
	for n := 1; n <= longest; n++ {
		if n < enough(len(used(freq))) {
			wantNone(t, freq, n, api.ErrForm)
		} else {
			wantLeast(t, freq, n)
		}
	}
}

func source(n uint64) *rand.Rand { return rand.New(rand.NewPCG(n, 5)) }

// shuffled is the frequencies at rough places of a row of that many, zeros between them.
func shuffled(r *rand.Rand, freq []int, size int) []int {
	l := and(freq, like(0, size-len(freq))...)
	r.Shuffle(len(l), func(i, j int) { l[i], l[j] = l[j], l[i] })
	return l
}

// doubling is 1, 1, 2, 4, .. : that many frequencies, each as great as all ahead of it.
func doubling(count int) []int {
	l := []int{1, 1}
	for len(l) < count {
		l = append(l, 2*l[len(l)-1])
	}
	return l[:count]
}

// fibonacci is 1, 1, 2, 3, 5, ..: that many.
func fibonacci(count int) []int {
	l := []int{1, 1}
	for len(l) < count {
		l = append(l, l[len(l)-1]+l[len(l)-2])
	}
	return l[:count]
}

// roughRow is frequencies of one of many kinds, none of them 0.
func roughRow(r *rand.Rand, count int) []int {
	l := make([]int, count)
	kind := r.IntN(6)
	for i := range l {
		switch kind {
		case 0:
			l[i] = 1 + r.IntN(3)
		case 1:
			l[i] = 1 + r.IntN(1000)
		case 2: // few are frequent, most are rare
			l[i] = 1 + 1000000/(i+1)
		case 3: // all sizes alike
			l[i] = 1 + r.IntN(1<<(1+r.IntN(40)))
		case 4:
			l[i] = greatest - r.IntN(3)
		default: // just rare or just frequent
			l[i] = 1 + r.IntN(2)*(greatest-1)
		}
	}
	return l
}

// P5.1: the chapter's examples.
func TestExamples(t *testing.T) {
	wantLengths(t, []int{1, 1, 2, 4}, 3, 3, 3, 2, 1)
	wantLengths(t, []int{1, 1, 2, 4}, 2, 2, 2, 2, 2)
	wantLengths(t, []int{0, 9, 0}, 1, 0, 1, 0)
	wantLengths(t, []int{0, 0}, 1, 0, 0)
	wantNone(t, []int{5, 4, 3}, 1, api.ErrForm)
	wantNone(t, []int{1}, 18, api.ErrArg)
	wantNone(t, []int{-1}, 3, api.ErrArg)
}

// P5.1, R6: no frequencies, nil ones, only zeros.
func TestNoSymbol(t *testing.T) {
	for n := 1; n <= longest; n++ {
		for _, freq := range [][]int{nil, {}, make([]int, 0, 4), {0}, {0, 0}, make([]int, most-1), make([]int, most)} {
			wantLengths(t, freq, n, make([]uint8, len(freq))...)
		}
	}
}

// P5.1: one symbol alone has the length 1, whatever the limit is, wherever it stands.
func TestOneSymbol(t *testing.T) {
	for n := 1; n <= longest; n++ {
		for _, size := range []int{1, 2, 3, 100, most} {
			for _, at := range []int{0, size / 2, size - 1} {
				for _, f := range []int{1, 2, 1 << 20, greatest - 1, greatest} {
					freq, want := make([]int, size), make([]uint8, size)
					freq[at], want[at] = f, 1
					wantLengths(t, freq, n, want...)
				}
			}
		}
	}
}

// P5.1: two symbols have the length 1 each.
func TestTwoSymbols(t *testing.T) {
	for n := 1; n <= longest; n++ {
		for _, f := range [][2]int{{1, 1}, {1, 2}, {2, 1}, {1, greatest}, {greatest, 1}, {greatest, greatest}} {
			wantLengths(t, f[:], n, 1, 1)
			wantLengths(t, []int{0, f[0], 0, 0, f[1], 0}, n, 0, 1, 0, 0, 1, 0)
		}
	}
}

// P5.1, R7: limits from 1 to 17 may be, no others; ErrArg ahead of ErrForm.
func TestLimits(t *testing.T) {
	for _, freq := range [][]int{nil, {0}, {1}, {1, 2}, {1, 1, 2, 4}, like(1, 5), like(1, most)} {
		for _, n := range []int{0, longest + 1, -1, 2 * longest, 32, 63, 64, 65, 256, 257, 1<<32 + 3, math.MaxInt, math.MinInt, math.MinInt + 3} {
			wantNone(t, freq, n, api.ErrArg)
		}
		wantLeastAll(t, freq)
	}
}

// P5.1: frequencies from 0 to 2^40 may be, no others, at any place; ErrArg ahead of ErrForm.
func TestFrequencies(t *testing.T) {
	for _, size := range []int{1, 2, 3, 9, most} {
		for _, at := range []int{0, size / 2, size - 1} {
			for _, beside := range []int{0, 1, greatest} {
				for _, f := range []int{-1, -2, -greatest, math.MinInt, greatest + 1, 2 * greatest, 1 << 62, math.MaxInt} {
					freq := like(beside, size)
					freq[at] = f
					wantNone(t, freq, 1, api.ErrArg)
					wantNone(t, freq, 9, api.ErrArg)
					wantNone(t, freq, longest, api.ErrArg)
				}
				for _, f := range []int{0, 1, greatest - 1, greatest} {
					freq := like(beside, size)
					freq[at] = f
					wantLeast(t, freq, 9)
				}
			}
		}
	}
}

// P5.1: 512 frequencies may be, no more, zeros or not; ErrArg ahead of ErrForm.
func TestManyFrequencies(t *testing.T) {
	for _, f := range []int{0, 1, 7, greatest} {
		wantLengths(t, like(f, most), 9, slices.Repeat([]uint8{uint8(min(f, 1) * 9)}, most)...)
		for _, size := range []int{most + 1, most + 2, 2 * most, 1 << 16, 1<<17 + 1} {
			for _, n := range []int{1, 9, 10, longest} {
				wantNone(t, like(f, size), n, api.ErrArg)
			}
		}
	}
	wantNone(t, and(like(1, most), 0), 9, api.ErrArg)
	wantNone(t, and(like(0, most), 1), 9, api.ErrArg)
	wantLeast(t, and(like(1, most-1), 5), 9)
	wantLeast(t, and(like(1, most-1), 5), longest)
}

// P5.1: as many symbols as 2 to the power of the limit have it as their length, whatever their frequencies are; one more have no choice.
func TestAsManyAsMayBe(t *testing.T) {
	r := source(1)
	for n := 1; n <= 9; n++ {
		for range 6 {
			freq := roughRow(r, 1<<n)
			wantLengths(t, freq, n, slices.Repeat([]uint8{uint8(n)}, 1<<n)...)
			if n < 9 {
				more := and(freq, 1+r.IntN(greatest))
				wantNone(t, more, n, api.ErrForm)
				wantNone(t, shuffled(r, more, most), n, api.ErrForm)
				wantLeast(t, more, n+1)
				choice(t, shuffled(r, freq, most), n) // zeros do not count
			}
		}
	}
}

// P5.1: each number of symbols has a choice as soon as they are not too many, and none with a limit below.
func TestEachNumberOfSymbols(t *testing.T) {
	r := source(2)
	for count := 1; count <= most; count++ {
		least := enough(count)
		for _, freq := range [][]int{like(1, count), roughRow(r, count)} {
			for _, n := range []int{least, least + 1, longest} {
				choice(t, freq, n)
			}
			if least > 1 {
				wantNone(t, freq, least-1, api.ErrForm)
			}
		}
	}
}

// P5.2: no choice at all costs less: few symbols, all rows of small frequencies, all limits, all choices.
func TestAllChoices(t *testing.T) {
	for count, highest := range []int{2: 9, 3: 9, 4: 6, 5: 4, 6: 3} {
		if count < 2 {
			continue
		}
		for n := enough(count); n <= count; n++ {
			all := allChoices(count, n)
			freq := like(1, count)
			for at := 0; at < count; {
				if got, want := cost(freq, choice(t, freq, n)), leastOf(freq, all); got != want {
					t.Fatalf("Lengths(%v, %d) costs %d, another choice %d", freq, n, got, want)
				}
				for at = 0; at < count && freq[at] == highest; at++ {
					freq[at] = 1
				}
				if at < count {
					freq[at]++
				}
			}
		}
	}
}

// P5.2: no choice at all costs less: some symbols, rough frequencies, zeros among them, all choices.
func TestAllChoicesRough(t *testing.T) {
	r := source(3)
	for count := 2; count <= 7; count++ {
		for n := enough(count); n <= count; n++ {
			all := allChoices(count, n)
			for range 40 {
				freq := roughRow(r, count)
				want := leastOf(freq, all)
				if least := leastByRows(freq, n); least != want {
					t.Fatalf("%v, %d: %d by rows, %d", freq, n, least, want)
				}
				freq = shuffled(r, freq, count+r.IntN(4))
				if got := cost(freq, choice(t, freq, n)); got != want {
					t.Fatalf("Lengths(%v, %d) costs %d, another choice %d", freq, n, got, want)
				}
			}
		}
	}
}

// P5.2: no choice costs less: more symbols, all limits.
func TestLeastRough(t *testing.T) {
	r := source(4)
	for range 150 {
		count := 1 + r.IntN(60)
		wantLeastAll(t, shuffled(r, roughRow(r, count), count+r.IntN(10)))
	}
}

// P5.2: no choice costs less: as many symbols as may be, and nearly, limits that count.
func TestLeastMany(t *testing.T) {
	r := source(5)
	for range 12 {
		count := most - r.IntN(256)
		freq := shuffled(r, roughRow(r, count), most)
		for _, n := range []int{9, 10, 9 + r.IntN(9)} {
			wantLeast(t, freq, n)
		}
	}
	for _, freq := range [][]int{
		like(greatest, most),
		and(like(1, most-1), greatest),
		and(like(1, most/2), like(greatest, most/2)...),
		and(like(1, most-41), doubling(41)...),
	} {
		for _, n := range []int{9, 10, 12, longest} {
			wantLeast(t, freq, n)
		}
	}
}

// P5.1, P5.2: frequencies that are all alike: the lengths differ by 1 at most.
func TestAlike(t *testing.T) {
	for _, f := range []int{1, 3, greatest} {
		for count := 2; count <= most; count += 1 + count/9 {
			n := enough(count)
			short := 1<<n - count // that many have a bit less
			for _, top := range []int{n, longest} {
				lens := choice(t, like(f, count), top)
				slices.Sort(lens)
				want := slices.Concat(slices.Repeat([]uint8{uint8(n - 1)}, short), slices.Repeat([]uint8{uint8(n)}, count-short))
				if !slices.Equal(lens, want) {
					t.Fatalf("%d of %d, %d: %v", count, f, top, lens)
				}
			}
		}
	}
}

// P5.1, P5.2: frequencies that double have words of all lengths, up to the limit that just does not count, 17 bits for 18 of them; above that the limit counts.
func TestDoubling(t *testing.T) {
	r := source(6)
	for count := 2; count <= 42; count++ {
		freq := doubling(count)
		if count-1 <= longest {
			want := []uint8{uint8(count - 1)}
			for n := count - 1; n >= 1; n-- {
				want = append(want, uint8(n))
			}
			wantLengths(t, freq, count-1, want...)
			wantLengths(t, freq, longest, want...)
		} else if free, deepest := leastFree(freq); deepest != count-1 || cost(freq, choice(t, freq, longest)) <= free {
			t.Errorf("%d that double: the limit does not count", count)
		}
		wantLeastAll(t, shuffled(r, freq, count+3))
	}
}

// P5.1, P5.2: frequencies that grow as Fibonacci's, from few to the greatest one that may be.
func TestFibonacci(t *testing.T) {
	r := source(7)
	for count := 2; count <= 58; count += 1 + count/12 {
		freq := fibonacci(count)
		free, deepest := leastFree(freq)
		got := cost(freq, choice(t, freq, longest))
		if deepest <= longest && got != free || deepest > longest && got < free {
			t.Errorf("%d of Fibonacci's: cost %d, without a limit %d, of %d bits", count, got, free, deepest)
		}
		wantLeastAll(t, shuffled(r, freq, count+3))
	}
	if f := fibonacci(58)[57]; f > greatest || f < greatest/2 {
		t.Errorf("%d is not near the greatest frequency", f)
	}
}

// P5.2: without a limit that counts, the cost is that of putting the two least frequencies together; with one it is more.
func TestFree(t *testing.T) {
	r := source(8)
	counted, free := 0, 0
	for range 400 {
		count := 1 + r.IntN(120)
		freq := shuffled(r, roughRow(r, count), count+r.IntN(20))
		want, deepest := leastFree(freq)
		for n := enough(count); n <= longest; n++ {
			got := cost(freq, choice(t, freq, n))
			if n >= deepest && got != want {
				t.Fatalf("Lengths(%v, %d) costs %d, without a limit %d", freq, n, got, want)
			}
			// The tree is no deeper than need be, so that a lower limit counts.
			if n < deepest && got <= want {
				t.Fatalf("Lengths(%v, %d) costs %d, without a limit, of %d bits, %d", freq, n, got, deepest, want)
			}
			if n < deepest {
				counted++
			} else {
				free++
			}
		}
	}
	if counted < 100 || free < 100 {
		t.Errorf("the limit counts %d times, and %d times not", counted, free)
	}
}

// P5.2: a higher limit costs no more.
func TestHigherLimit(t *testing.T) {
	r := source(9)
	for range 100 {
		freq := roughRow(r, 2+r.IntN(most-1))
		ahead := math.MaxInt
		for n := enough(len(freq)); n <= longest; n++ {
			now := cost(freq, choice(t, freq, n))
			if now > ahead {
				t.Fatalf("%v: %d with %d bits, %d with one fewer", freq, now, n, ahead)
			}
			ahead = now
		}
	}
}

// P5.2: if a frequency grows, so does the cost, by no more than what is added times that symbol's length; nor by less than that times its length behind it.
func TestGrowing(t *testing.T) {
	r := source(10)
	for range 600 {
		count := 1 + r.IntN(80)
		freq := shuffled(r, roughRow(r, count), count+r.IntN(9))
		n := enough(count) + r.IntN(longest-enough(count)+1)
		before := choice(t, freq, n)
		for _, more := range []int{1, 2, 1 + r.IntN(1000), 1 + r.IntN(greatest)} {
			at := r.IntN(len(freq))
			if freq[at] == 0 || freq[at]+more > greatest {
				continue
			}
			grown := slices.Clone(freq)
			grown[at] += more
			after := choice(t, grown, n)
			by := cost(grown, after) - cost(freq, before)
			if by <= 0 || by > more*int(before[at]) || by < more*int(after[at]) {
				t.Fatalf("Lengths(%v, %d): %d more at %d: cost %d more, lengths %d, %d", freq, n, more, at, by, before[at], after[at])
			}
		}
	}
}

// P5.2: frequencies times a number cost that many times as much; zeros, and where symbols stand, play no part in the cost.
func TestSameCost(t *testing.T) {
	r := source(11)
	for range 200 {
		count := 1 + r.IntN(200)
		freq := make([]int, count)
		for i := range freq {
			freq[i] = 1 + r.IntN(1<<(1+r.IntN(20)))
		}
		n := enough(count) + r.IntN(longest-enough(count)+1)
		want := cost(freq, choice(t, freq, n))
		other := shuffled(r, freq, most-r.IntN(most-count+1))
		if got := cost(other, choice(t, other, n)); got != want {
			t.Fatalf("Lengths(%v, %d) costs %d, at other places %d", freq, n, want, got)
		}
		by := 2 + r.IntN(1<<19)
		for i := range other {
			other[i] *= by
		}
		if got := cost(other, choice(t, other, n)); got != want*by {
			t.Fatalf("Lengths(%v, %d) costs %d, times %d costs %d", freq, n, want, by, got)
		}
	}
}

// R3: frequencies are not changed, with the room behind their end, which plays no part.
func TestFrequenciesStay(t *testing.T) {
	for _, room := range [][]int{
		{4, 1, 2, 1, 9, 8, 7, -1},
		{0, 9, 0, 3, -1, 8, 7, 6},
		{5, 4, 3, 2, 1, 1, 1, 1},
		{1, -1, 3, 9, 1, 1, 1, 1},
		{1, 2, 3, greatest + 1, 1, 1, 1, 1},
	} {
		whole := slices.Clone(room)
		for n := 0; n <= longest+1; n++ {
			lens, e := limit.Lengths(room[:4], n)
			if !slices.Equal(room, whole) {
				t.Fatalf("%v became %v", whole, room)
			}
			other, o := limit.Lengths(slices.Clone(whole[:4]), n)
			if !slices.Equal(lens, other) || e != o {
				t.Errorf("%v, %d: the room behind the end plays a part", whole, n)
			}
		}
	}
}

// R3: lengths stay when the frequencies are overwritten, and are new memory: no later answer shows what is written there.
func TestLengthsAreNew(t *testing.T) {
	freq := []int{1, 1, 2, 4}
	first, _ := limit.Lengths(freq, 3)
	second, _ := limit.Lengths(freq, 3)
	clear(freq)
	want := []uint8{3, 3, 2, 1}
	if !slices.Equal(first, want) || !slices.Equal(second, want) {
		t.Errorf("%v, %v, want %v", first, second, want)
	}
	all := first[:cap(first)]
	for i := range all {
		all[i] = 77
	}
	if !slices.Equal(second, want) {
		t.Errorf("an earlier answer became %v", second)
	}
	wantLengths(t, []int{1, 1, 2, 4}, 3, want...)
	wantLengths(t, freq, 3, 0, 0, 0, 0)
}

// P5.1, R2: the same call answers the same, whatever was asked between: of like frequencies, too, where several choices cost as much.
func TestSameAgain(t *testing.T) {
	r := source(12)
	var rows [][]int
	var answers [][]uint8
	for i := range 200 {
		freq := roughRow(r, 1+r.IntN(most))
		if i%2 == 0 {
			freq = like(1+i, len(freq))
		}
		rows = append(rows, freq)
		answers = append(answers, choice(t, freq, 9+i%9))
	}
	for i := len(rows) - 1; i >= 0; i-- {
		limit.Lengths([]int{-1}, 3)
		limit.Lengths([]int{5, 4, 3}, 1)
		wantLengths(t, slices.Clone(rows[i]), 9+i%9, answers[i]...)
	}
}

// R2, R3: calls at the same time do not know of one another, and may be handed the same frequencies.
func TestAtTheSameTime(t *testing.T) {
	shared := roughRow(source(13), 300)
	want := choice(t, shared, 10)
	var all sync.WaitGroup
	for i := range 16 {
		all.Go(func() {
			r := source(uint64(100 + i))
			for range 10 {
				if freq := roughRow(r, 2+r.IntN(40)); cost(freq, lengths(freq, 8)) != leastByRows(freq, 8) {
					t.Errorf("Lengths(%v, 8) = %v", freq, lengths(freq, 8))
				}
				wantLengths(t, shared, 10, want...)
			}
		})
	}
	all.Wait()
}

// lengths is what Lengths answers, or lengths of 0.
func lengths(freq []int, top int) []uint8 {
	lens, e := limit.Lengths(freq, top)
	if e != api.OK || len(lens) != len(freq) {
		return make([]uint8, len(freq))
	}
	return lens
}
