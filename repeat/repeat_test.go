package repeat_test

import (
	"bytes"
	"math"
	"math/rand/v2"
	"slices"
	"sync"
	"testing"

	"presswork/api"
	"presswork/repeat"
)

const longest = 15

type (
	sign = repeat.Sign
	row  = []uint8
)

func source(seed uint64) *rand.Rand { return rand.New(rand.NewPCG(7, seed)) }

func like(length uint8, n int) row { return bytes.Repeat(row{length}, n) }

func likeSigns(s sign, n int) []sign { return slices.Repeat([]sign{s}, n) }

func and(parts ...row) row { return slices.Concat(parts...) }

// short is a row as a failure tells it: not more than can be looked at.
func short[T any](l []T) []T { return l[:min(len(l), 200)] }

func wantPack(t *testing.T, lens row, want ...sign) {
	t.Helper()
	if got, e := repeat.Pack(lens); e != api.OK || !slices.Equal(got, want) {
		t.Fatalf("Pack(%d: %v) = %v, %v, want %v", len(lens), short(lens), short(got), e, short(want))
	}
}

// wantNoPack asks for ErrArg, and for no signs beside it.
func wantNoPack(t *testing.T, lens row) {
	t.Helper()
	if got, e := repeat.Pack(lens); e != api.ErrArg || len(got) != 0 {
		t.Fatalf("Pack(%d: %v) = %v, %v, want none, %v", len(lens), short(lens), short(got), e, api.ErrArg)
	}
}

func wantUnpack(t *testing.T, l []sign, want row) {
	t.Helper()
	if got, e := repeat.Unpack(l, len(want)); e != api.OK || !slices.Equal(got, want) {
		t.Fatalf("Unpack(%v, %d) = %v, %v, want %v", short(l), len(want), short(got), e, short(want))
	}
}

// wantNoUnpack asks for this error, and for no lengths beside it.
func wantNoUnpack(t *testing.T, l []sign, n int, want api.Errno) {
	t.Helper()
	if got, e := repeat.Unpack(l, n); e != want || len(got) != 0 {
		t.Fatalf("Unpack(%d: %v, %d) = %v, %v, want none, %v", len(l), short(l), n, short(got), e, want)
	}
}

// otherCounts are counts of lengths that signs which say n of them do not say.
func otherCounts(n int) []int {
	l := []int{-1, -2, -n - 1, 0, 1, n / 2, n - 1, n + 1, n + 2, 2*n + 1, n + 138, n + 1<<8, n + 1<<16, 1 << 30, math.MaxInt32, math.MinInt32, math.MaxInt, math.MinInt}
	return slices.DeleteFunc(l, func(x int) bool { return x == n })
}

// definedRun is the signs of n like lengths by the chapter's words, counted by divisions.
func definedRun(length uint8, n int) []sign {
	if length == 0 {
		l := likeSigns(sign{Code: 18, Extra: 127}, n/138)
		switch left := n % 138; {
		case left >= 11:
			return append(l, sign{Code: 18, Extra: uint8(left - 11)})
		case left >= 3:
			return append(l, sign{Code: 17, Extra: uint8(left - 3)})
		default:
			return append(l, likeSigns(sign{}, left)...)
		}
	}
	l := []sign{{Code: length}}
	l = append(l, likeSigns(sign{Code: 16, Extra: 3}, (n-1)/6)...)
	if left := (n - 1) % 6; left >= 3 {
		return append(l, sign{Code: 16, Extra: uint8(left - 3)})
	} else {
		return append(l, likeSigns(sign{Code: length}, left)...)
	}
}

// definedSigns is the signs of lengths: a plain count of each run, and its signs.
func definedSigns(lens row) []sign {
	var l []sign
	n := 0
	for i, length := range lens {
		n++
		if i+1 == len(lens) || lens[i+1] != length {
			l = append(l, definedRun(length, n)...)
			n = 0
		}
	}
	return l
}

// said is what signs that may be say, one length behind the other; false, if a 16 stands at the beginning.
func said(l []sign) (row, bool) {
	var lens row
	for _, s := range l {
		length, times := s.Code, 1
		switch s.Code {
		case 16:
			if len(lens) == 0 {
				return nil, false
			}
			length, times = lens[len(lens)-1], 3+int(s.Extra)
		case 17:
			length, times = 0, 3+int(s.Extra)
		case 18:
			length, times = 0, 11+int(s.Extra)
		}
		for range times {
			lens = append(lens, length)
		}
	}
	return lens, true
}

// greatest is the greatest Extra of a Code from 0 to 18.
func greatest(code int) int {
	switch code {
	case 16:
		return 3
	case 17:
		return 7
	case 18:
		return 127
	}
	return 0
}

// allSigns are all that may be.
func allSigns() []sign {
	var l []sign
	for code := range 19 {
		for extra := range greatest(code) + 1 {
			l = append(l, sign{Code: uint8(code), Extra: uint8(extra)})
		}
	}
	return l
}

// noSigns are all that may not be.
func noSigns() []sign {
	var l []sign
	for code := range 256 {
		for extra := range 256 {
			if code > 18 || extra > greatest(code) {
				l = append(l, sign{Code: uint8(code), Extra: uint8(extra)})
			}
		}
	}
	return l
}

// wantDefined holds the signs of these lengths against the chapter's, and asks for the lengths again (P7.4).
func wantDefined(t *testing.T, lens row) {
	t.Helper()
	want := definedSigns(lens)
	wantPack(t, lens, want...)
	if len(want) > len(lens) {
		t.Fatalf("Pack(%v): %d signs of %d lengths", short(lens), len(want), len(lens))
	}
	wantUnpack(t, want, lens)
	for _, n := range []int{len(lens) - 1, len(lens) + 1} {
		wantNoUnpack(t, want, n, api.ErrForm)
	}
}

// roughRow is up to that many lengths, in runs of all kinds of numbers.
func roughRow(r *rand.Rand, most int) row {
	var lens row
	size := r.IntN(most + 1)
	for len(lens) < size {
		length := uint8(r.IntN(longest + 1))
		if r.IntN(3) == 0 {
			length = 0
		}
		n := 1 + r.IntN([]int{1, 2, 8, 30, 160, 600}[r.IntN(6)])
		lens = append(lens, like(length, min(n, size-len(lens)))...)
	}
	return lens
}

// roughSigns is up to that many signs that may be, no 16 at the beginning.
func roughSigns(r *rand.Rand, most int) []sign {
	all := allSigns()
	var l []sign
	for range r.IntN(most + 1) {
		s := all[r.IntN(len(all))]
		if r.IntN(2) == 0 {
			s = all[r.IntN(20)] // a length, or a 16
		}
		if s.Code == 16 && len(l) == 0 {
			continue
		}
		l = append(l, s)
	}
	return l
}

// P7.1, P7.2: the chapter's examples.
func TestExamples(t *testing.T) {
	wantPack(t, row{5, 5, 5, 5, 0, 0, 0, 7}, sign{5, 0}, sign{16, 0}, sign{17, 0}, sign{7, 0})
	wantPack(t, like(0, 139), sign{18, 127}, sign{0, 0})
	wantNoUnpack(t, []sign{{16, 0}}, 3, api.ErrForm)
	wantNoUnpack(t, []sign{{17, 0}}, 4, api.ErrForm)
	wantNoUnpack(t, []sign{{19, 0}}, 1, api.ErrArg)
	wantNoPack(t, row{16})
	wantUnpack(t, []sign{{5, 0}, {16, 0}, {17, 0}, {7, 0}}, row{5, 5, 5, 5, 0, 0, 0, 7})
	wantUnpack(t, []sign{{18, 127}, {0, 0}}, like(0, 139))
}

// P7.1, P7.2, R6: no lengths, and no signs.
func TestNothing(t *testing.T) {
	for _, lens := range []row{nil, {}, make(row, 0, 8)} {
		wantPack(t, lens)
	}
	for _, l := range [][]sign{nil, {}, make([]sign, 0, 8)} {
		wantUnpack(t, l, nil)
		for _, n := range otherCounts(0) {
			wantNoUnpack(t, l, n, api.ErrForm)
		}
	}
}

// P7.1: each length alone; above 15 there is none.
func TestOneLength(t *testing.T) {
	for n := range 256 {
		if n <= longest {
			wantPack(t, row{uint8(n)}, sign{Code: uint8(n)})
		} else {
			wantNoPack(t, row{uint8(n)})
		}
	}
}

// P7.1, R4: a length above 15 at any place, whatever stands beside it.
func TestLengthsAbove(t *testing.T) {
	for n := longest + 1; n < 256; n++ {
		for _, size := range []int{2, 3, 12, 300} {
			for _, at := range []int{0, 1, size / 2, size - 2, size - 1} {
				for _, beside := range []uint8{0, 7, 15, 255} {
					lens := like(beside, size)
					lens[at] = uint8(n)
					wantNoPack(t, lens)
				}
			}
		}
		wantNoPack(t, like(uint8(n), 7))
		wantNoPack(t, like(uint8(n), 139))
	}
	wantNoPack(t, append(make(row, 1<<20), 16))
}

// P7.1: runs of 0, the numbers at which the signs change, sign by sign.
func TestRunsOfZeroBySign(t *testing.T) {
	for n, want := range map[int][]sign{
		1:   {{0, 0}},
		2:   {{0, 0}, {0, 0}},
		3:   {{17, 0}},
		10:  {{17, 7}},
		11:  {{18, 0}},
		12:  {{18, 1}},
		137: {{18, 126}},
		138: {{18, 127}},
		139: {{18, 127}, {0, 0}},
		140: {{18, 127}, {0, 0}, {0, 0}},
		141: {{18, 127}, {17, 0}},
		148: {{18, 127}, {17, 7}},
		149: {{18, 127}, {18, 0}},
		275: {{18, 127}, {18, 126}},
		276: {{18, 127}, {18, 127}},
		277: {{18, 127}, {18, 127}, {0, 0}},
		279: {{18, 127}, {18, 127}, {17, 0}},
		287: {{18, 127}, {18, 127}, {18, 0}},
		414: {{18, 127}, {18, 127}, {18, 127}},
	} {
		wantPack(t, like(0, n), want...)
		wantUnpack(t, want, like(0, n))
	}
}

// P7.1: runs of a length that is not 0, the numbers at which the signs change, sign by sign.
func TestRunsOfOthersBySign(t *testing.T) {
	for length := uint8(1); length <= longest; length++ {
		one := sign{Code: length}
		for n, want := range map[int][]sign{
			1:  {one},
			2:  {one, one},
			3:  {one, one, one},
			4:  {one, {16, 0}},
			5:  {one, {16, 1}},
			6:  {one, {16, 2}},
			7:  {one, {16, 3}},
			8:  {one, {16, 3}, one},
			9:  {one, {16, 3}, one, one},
			10: {one, {16, 3}, {16, 0}},
			12: {one, {16, 3}, {16, 2}},
			13: {one, {16, 3}, {16, 3}},
			14: {one, {16, 3}, {16, 3}, one},
			16: {one, {16, 3}, {16, 3}, {16, 0}},
			19: {one, {16, 3}, {16, 3}, {16, 3}},
			20: {one, {16, 3}, {16, 3}, {16, 3}, one},
		} {
			wantPack(t, like(length, n), want...)
			wantUnpack(t, want, like(length, n))
		}
	}
}

// P7.1, P7.4: runs of each length, of each number, alone and with others ahead and behind, by the chapter's words.
func TestRuns(t *testing.T) {
	for length := range uint8(longest + 1) {
		for n := 1; n <= 300; n++ {
			run := like(length, n)
			other := (length + 1) % (longest + 1)
			wantDefined(t, run)
			wantDefined(t, and(row{other}, run))
			wantDefined(t, and(run, row{other}))
			wantDefined(t, and(like(other, 5), run, like(other, 3)))
		}
	}
	for _, n := range []int{413, 414, 415, 551, 552, 1379, 1380, 1381, 13800, 13811, 1 << 16, 1 << 20} {
		for _, length := range []uint8{0, 1, 15} {
			wantDefined(t, like(length, n))
			wantDefined(t, and(row{3}, like(length, n), row{4}))
		}
	}
}

// P7.1, P7.4: runs of two lengths in turn, of all numbers at which signs change.
func TestRunBesideRun(t *testing.T) {
	edges := []int{1, 2, 3, 4, 6, 7, 8, 9, 10, 11, 12, 137, 138, 139, 140, 141, 149, 276, 277}
	for _, a := range edges {
		for _, b := range edges {
			for _, lengths := range []row{{0, 5}, {5, 0}, {5, 6}, {15, 1}} {
				wantDefined(t, and(like(lengths[0], a), like(lengths[1], b)))
				wantDefined(t, and(like(lengths[0], a), like(lengths[1], b), like(lengths[0], a)))
			}
		}
	}
}

// P7.1, P7.4: all rows of up to 8 lengths out of 0, 5 and 15, and of up to 12 out of 0 and 9.
func TestAllShortRows(t *testing.T) {
	for _, kind := range []struct {
		lengths row
		most    int
	}{{row{0, 5, 15}, 8}, {row{0, 9}, 12}} {
		rows := []row{nil}
		for range kind.most {
			var longer []row
			for _, lens := range rows {
				for _, length := range kind.lengths {
					longer = append(longer, and(lens, row{length}))
				}
			}
			for _, lens := range longer {
				wantDefined(t, lens)
			}
			rows = longer
		}
	}
}

// P7.1, P7.4: rough rows, of runs and of no runs.
func TestRoughRows(t *testing.T) {
	r := source(1)
	for range 3000 {
		wantDefined(t, roughRow(r, 700))
		lens := make(row, r.IntN(320))
		for i := range lens {
			lens[i] = uint8(r.IntN(longest + 1))
		}
		wantDefined(t, lens)
	}
	wantDefined(t, roughRow(r, 1<<18))
}

// P7.3: how many bits the Extra of each Code has, those that are none, too.
func TestBits(t *testing.T) {
	for code := range 256 {
		want := map[int]int{16: 2, 17: 3, 18: 7}[code]
		if got := repeat.Bits(uint8(code)); got != want {
			t.Errorf("Bits(%d) = %d, want %d", code, got, want)
		}
	}
}

// P7.2: each sign that may be, at the beginning and behind lengths, with the count that it says and with others.
func TestEachSign(t *testing.T) {
	for _, s := range allSigns() {
		for _, ahead := range [][]sign{nil, {{0, 0}}, {{9, 0}}, {{17, 2}}, {{9, 0}, {17, 1}, {15, 0}}} {
			for _, behind := range [][]sign{nil, {{4, 0}}, {{18, 5}}} {
				l := slices.Concat(ahead, []sign{s}, behind)
				lens, ok := said(l)
				if !ok {
					for n := range 160 {
						wantNoUnpack(t, l, n, api.ErrForm)
					}
					continue
				}
				wantUnpack(t, l, lens)
				for _, n := range otherCounts(len(lens)) {
					wantNoUnpack(t, l, n, api.ErrForm)
				}
			}
		}
	}
}

// P7.2: the Codes of repetitions, length by length, with the least and the greatest Extra.
func TestRepetitions(t *testing.T) {
	wantUnpack(t, []sign{{5, 0}, {16, 0}}, row{5, 5, 5, 5})
	wantUnpack(t, []sign{{5, 0}, {16, 3}}, like(5, 7))
	wantUnpack(t, []sign{{17, 0}}, row{0, 0, 0})
	wantUnpack(t, []sign{{17, 7}}, like(0, 10))
	wantUnpack(t, []sign{{18, 0}}, like(0, 11))
	wantUnpack(t, []sign{{18, 127}}, like(0, 138))
	wantUnpack(t, []sign{{5, 0}, {17, 0}, {16, 1}, {6, 0}}, and(row{5}, like(0, 7), row{6}))
	wantUnpack(t, []sign{{5, 0}, {18, 0}, {16, 0}, {6, 0}}, and(row{5}, like(0, 14), row{6}))
	wantUnpack(t, []sign{{7, 0}, {16, 1}, {16, 2}, {8, 0}, {16, 0}}, and(like(7, 10), like(8, 4)))
	wantUnpack(t, []sign{{0, 0}, {16, 0}, {17, 0}, {0, 0}, {18, 0}}, like(0, 19))
	for code := range uint8(longest + 1) {
		wantUnpack(t, []sign{{Code: code}}, row{code})
		wantUnpack(t, []sign{{Code: code}, {16, 0}}, like(code, 4))
	}
}

// P7.2: a 16 at the beginning, whatever follows, whatever n is: that of the lengths that it would say, too.
func TestAgainAtBeginning(t *testing.T) {
	for extra := range uint8(4) {
		for _, behind := range [][]sign{nil, {{0, 0}}, {{5, 0}}, {{16, 0}}, {{18, 127}}} {
			l := append([]sign{{16, extra}}, behind...)
			lens, _ := said(behind)
			for _, n := range []int{math.MinInt, -1, 0, 1, 3, 3 + int(extra), len(lens), len(lens) + 3 + int(extra), 200, math.MaxInt} {
				wantNoUnpack(t, l, n, api.ErrForm)
			}
		}
	}
}

// P7.2, R4: each sign that may not be, alone and beside others, whatever the count.
func TestNoSigns(t *testing.T) {
	for _, s := range noSigns() {
		for _, n := range []int{-1, 0, 1, 3, 11, 138} {
			wantNoUnpack(t, []sign{s}, n, api.ErrArg)
		}
		wantNoUnpack(t, []sign{{5, 0}, s}, 2, api.ErrArg)
		wantNoUnpack(t, []sign{s, {5, 0}}, 2, api.ErrArg)
		wantNoUnpack(t, []sign{{5, 0}, {16, 0}, s, {17, 0}}, 8, api.ErrArg)
	}
}

// P7.2: the least Extras that may not be, the Codes that may not be, beside those that may.
func TestEdgesOfSigns(t *testing.T) {
	wantUnpack(t, []sign{{1, 0}, {16, 3}}, like(1, 7))
	wantNoUnpack(t, []sign{{1, 0}, {16, 4}}, 8, api.ErrArg)
	wantUnpack(t, []sign{{17, 7}}, like(0, 10))
	wantNoUnpack(t, []sign{{17, 8}}, 11, api.ErrArg)
	wantUnpack(t, []sign{{18, 127}}, like(0, 138))
	wantNoUnpack(t, []sign{{18, 128}}, 139, api.ErrArg)
	for code := range uint8(longest + 1) {
		wantNoUnpack(t, []sign{{code, 1}}, 1, api.ErrArg)
		wantNoUnpack(t, []sign{{code, 1}}, 2, api.ErrArg)
	}
	wantUnpack(t, []sign{{18, 0}}, like(0, 11))
	for code := 19; code < 256; code++ {
		for n := range 20 {
			wantNoUnpack(t, []sign{{uint8(code), 0}}, n, api.ErrArg)
		}
	}
}

// P7.2, R5: ErrArg ahead of ErrForm, wherever the sign that may not be stands: behind a 16 at the beginning, and behind more lengths than n.
func TestErrorsInOrder(t *testing.T) {
	for _, s := range []sign{{19, 0}, {255, 255}, {0, 1}, {15, 1}, {16, 4}, {17, 8}, {18, 128}} {
		for _, n := range []int{math.MinInt, -1, 0, 1, 3, 4, 5, 140, math.MaxInt} {
			wantNoUnpack(t, []sign{{16, 0}, s}, n, api.ErrArg)
			wantNoUnpack(t, []sign{s, {16, 0}}, n, api.ErrArg)
			wantNoUnpack(t, []sign{{18, 127}, s}, n, api.ErrArg)
			wantNoUnpack(t, []sign{{5, 0}, {5, 0}, {5, 0}, s}, n, api.ErrArg)
			wantNoUnpack(t, append(likeSigns(sign{18, 127}, 2000), s), n, api.ErrArg)
		}
	}
}

// P7.2: rough signs, not only those that Pack makes, with the count that they say and with others.
func TestRoughSigns(t *testing.T) {
	r := source(2)
	for range 5000 {
		l := roughSigns(r, 60)
		lens, ok := said(l)
		if !ok {
			t.Fatal(l)
		}
		wantUnpack(t, l, lens)
		for _, n := range otherCounts(len(lens)) {
			wantNoUnpack(t, l, n, api.ErrForm)
		}
		for _, n := range []int{r.IntN(len(lens) + 1), len(lens) + 1 + r.IntN(500)} {
			if n != len(lens) {
				wantNoUnpack(t, l, n, api.ErrForm)
			}
		}
	}
}

// P7.2, R1: many signs: just n, far more than n, far fewer.
func TestManySigns(t *testing.T) {
	l := likeSigns(sign{18, 127}, 1<<12)
	wantUnpack(t, l, like(0, 138<<12))
	for _, n := range otherCounts(138 << 12) {
		wantNoUnpack(t, l, n, api.ErrForm)
	}
	many := likeSigns(sign{18, 127}, 1<<22)
	for _, n := range []int{math.MinInt, -1, 0, 1, 137, 139, 138<<12 + 1} {
		wantNoUnpack(t, many, n, api.ErrForm)
	}
}

// R3: lengths and signs are not changed, with the room behind their end, which plays no part.
func TestRoomStays(t *testing.T) {
	lens := row{5, 5, 5, 5, 5, 5, 5, 16, 0}
	wantPack(t, lens[:4], sign{5, 0}, sign{16, 0})
	wantPack(t, lens[:7:8], sign{5, 0}, sign{16, 3})
	wantNoPack(t, lens[:8])
	if !slices.Equal(lens, row{5, 5, 5, 5, 5, 5, 5, 16, 0}) {
		t.Errorf("lengths became %v", lens)
	}
	l := []sign{{5, 0}, {16, 0}, {17, 1}, {19, 0}, {16, 9}}
	wantUnpack(t, l[:2], like(5, 4))
	wantUnpack(t, l[:3:4], and(like(5, 4), like(0, 4)))
	wantNoUnpack(t, l[:3], 7, api.ErrForm)
	wantNoUnpack(t, l[:4], 8, api.ErrArg)
	if !slices.Equal(l, []sign{{5, 0}, {16, 0}, {17, 1}, {19, 0}, {16, 9}}) {
		t.Errorf("signs became %v", l)
	}
	r := source(3)
	for range 300 {
		lens := roughRow(r, 400)
		same := slices.Clone(lens)
		l, _ := repeat.Pack(lens)
		sames := slices.Clone(l)
		repeat.Unpack(l, len(lens))
		if !slices.Equal(lens, same) || !slices.Equal(l, sames) {
			t.Fatalf("%v became %v, or %v became %v", same, lens, sames, l)
		}
	}
}

// R3: what is handed out does not hang on what was handed in, and is new memory: neither an earlier nor a later answer shows what is written there.
func TestAnswersAreNew(t *testing.T) {
	lens := row{5, 5, 5, 5, 0, 0, 0, 7}
	want := []sign{{5, 0}, {16, 0}, {17, 0}, {7, 0}}
	first, _ := repeat.Pack(lens)
	second, _ := repeat.Pack(lens)
	clear(lens)
	if !slices.Equal(first, want) || !slices.Equal(second, want) {
		t.Errorf("%v, %v, want %v", first, second, want)
	}
	for i := range first[:cap(first)] {
		first[:cap(first)][i] = sign{9, 9}
	}
	if !slices.Equal(second, want) {
		t.Errorf("an earlier answer became %v", second)
	}
	lens = row{5, 5, 5, 5, 0, 0, 0, 7}
	wantPack(t, lens, want...)

	one, _ := repeat.Unpack(want, 8)
	two, _ := repeat.Unpack(want, 8)
	clear(want)
	if !slices.Equal(one, lens) || !slices.Equal(two, lens) {
		t.Errorf("%v, %v, want %v", one, two, lens)
	}
	for i := range one[:cap(one)] {
		one[:cap(one)][i] = 9
	}
	if !slices.Equal(two, lens) {
		t.Errorf("an earlier answer became %v", two)
	}
	wantUnpack(t, []sign{{5, 0}, {16, 0}, {17, 0}, {7, 0}}, lens)
}

// R2: the same arguments have the same answers again, whatever was asked between.
func TestSameAgain(t *testing.T) {
	r := source(4)
	var rows []row
	var signs [][]sign
	for range 200 {
		lens := roughRow(r, 300)
		l, _ := repeat.Pack(lens)
		rows, signs = append(rows, lens), append(signs, l)
	}
	for i := len(rows) - 1; i >= 0; i-- {
		wantNoPack(t, row{16})
		wantNoUnpack(t, []sign{{16, 0}}, 3, api.ErrForm)
		wantPack(t, rows[i], signs[i]...)
		wantUnpack(t, signs[i], rows[i])
	}
}

// R2: calls at the same time do not know of one another.
func TestAtTheSameTime(t *testing.T) {
	shared := and(like(5, 20), like(0, 300))
	want := definedSigns(shared)
	var all sync.WaitGroup
	for i := range 16 {
		all.Go(func() {
			r := source(uint64(100 + i))
			for range 50 {
				lens := roughRow(r, 300)
				l, e := repeat.Pack(lens)
				back, other := repeat.Unpack(l, len(lens))
				if e != api.OK || other != api.OK || !slices.Equal(l, definedSigns(lens)) || !slices.Equal(back, lens) {
					t.Errorf("Pack(%v) = %v, %v; Unpack = %v, %v", lens, l, e, back, other)
				}
				if l, e := repeat.Pack(shared); e != api.OK || !slices.Equal(l, want) {
					t.Errorf("Pack(%v) = %v, %v", shared, l, e)
				}
				if lens, e := repeat.Unpack(want, len(shared)); e != api.OK || !slices.Equal(lens, shared) {
					t.Errorf("Unpack(%v) = %v, %v", want, lens, e)
				}
			}
		})
	}
	all.Wait()
}
