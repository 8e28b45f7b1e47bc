package near_test

import (
	"slices"
	"sync"
	"testing"

	"presswork/api"
	"presswork/near"
)

const (
	// great is how many numbers the greatest row has that a later layer hands in.
	great = api.Window + api.MaxSegment
	// greater is more than that.
	greater = 1 << 20
)

// P15.1 to P15.3: great rows whose nearest ones are known: as few steps for each place as going over once needs.
func TestGreatRows(t *testing.T) {
	for _, n := range []int{great, greater} {
		wantAhead(t, rising(-5, n), rising(-1, n)...)
		wantBehind(t, rising(-5, n), like(n, n)...)
		wantAhead(t, falling(-5, n), like(-1, n)...)
		wantBehind(t, falling(-5, n), rising(1, n)...)
		wantAhead(t, like(7, n), like(-1, n)...)
		wantBehind(t, like(7, n), like(n, n)...)

		half := n / 2
		wantAhead(t, slices.Concat(rising(0, half), falling(0, half)), slices.Concat(rising(-1, half), falling(-1, half))...)
		wantBehind(t, slices.Concat(rising(0, half), falling(0, half)), slices.Concat(falling(half+1, half), rising(half+1, half))...)
		wantAhead(t, slices.Concat(falling(0, half), rising(0, half)), slices.Concat(like(-1, half+1), rising(half, half-1))...)
		wantBehind(t, slices.Concat(falling(0, half), rising(0, half)), slices.Concat(rising(1, half-1), like(n, half+1))...)

		first := append([]int{-1}, like(0, n-1)...)
		wantAhead(t, first, append([]int{-1}, like(0, n-1)...)...)
		wantBehind(t, first, like(n, n)...)
		last := append(like(0, n-1), -1)
		wantAhead(t, last, like(-1, n)...)
		wantBehind(t, last, append(like(n-1, n-1), n)...)
	}
}

// P15.1 to P15.3: great rows, rough and made by rule, against plain looking, which is not slow where few places are far off.
func TestGreatRoughRows(t *testing.T) {
	r := source(5)
	for _, l := range [][]int{
		r.Perm(great), rough(r, great, 30), rough(r, great, 1<<50), walk(r, great), ruler(great)[1:], turned(ruler(great)),
	} {
		wantAhead(t, l, plainAhead(l)...)
		wantBehind(t, l, plainBehind(l)...)
		wantTurned(t, l)
	}
}

// P15.1, P15.2: a part that is repeated up to a great row: its least number has no lesser one however far off, and is the nearest of the last ones of the part ahead.
func TestGreatRowsOfParts(t *testing.T) {
	part, partAhead, partBehind := []int{0, 3, 1, 2, 1, 5}, []int{-1, 0, 0, 2, 0, 4}, []int{6, 2, 6, 4, 6, 6}
	for n := great - 6; n <= great; n++ {
		l := slices.Repeat(part, n/6+1)[:n]
		ahead, behind := make([]int, n), make([]int, n)
		for i := range n {
			from := i - i%6
			ahead[i], behind[i] = from+partAhead[i%6], min(from+partBehind[i%6], n)
			if l[i] == 0 {
				ahead[i], behind[i] = -1, n
			}
		}
		wantAhead(t, l, ahead...)
		wantBehind(t, l, behind...)
		wantTurned(t, l)
	}
}

// R3: rows are neither changed nor kept, with the room behind their ends, which plays no part; answers are new memory.
func TestMemory(t *testing.T) {
	r := source(6)
	for range 300 {
		l := rough(r, r.IntN(50), 1+r.IntN(20))
		room := slices.Concat(l, []int{-99, 5, -99})
		whole := slices.Clone(room)
		row := room[:len(l)]
		for _, x := range []struct {
			find func([]int) []int
			want []int
		}{{near.Ahead, plainAhead(l)}, {near.Behind, plainBehind(l)}} {
			first, second := x.find(row), x.find(row)
			if !slices.Equal(room, whole) {
				t.Fatalf("%v became %v", whole, room)
			}
			overwrite(row)
			if !slices.Equal(first, x.want) || !slices.Equal(second, x.want) {
				t.Fatalf("%v: %v, %v, want %v", l, first, second, x.want)
			}
			overwrite(first)
			if !slices.Equal(second, x.want) {
				t.Fatalf("%v: two answers share memory", l)
			}
			copy(room, whole)
			overwrite(second)
			if !slices.Equal(room, whole) || !slices.Equal(x.find(row), x.want) {
				t.Fatalf("%v: an answer shares memory", l)
			}
		}
	}
}

// overwrite fills a row with another number, with the room behind its end.
func overwrite(row []int) {
	all := row[:cap(row)]
	for i := range all {
		all[i] = 77
	}
}

// R2: the same rows have the same answers, from many goroutines at once, whatever was asked between.
func TestManyAtOnce(t *testing.T) {
	r := source(7)
	var rows [][]int
	for range 80 {
		rows = append(rows, rough(r, r.IntN(200), 1+r.IntN(50)))
	}
	var all sync.WaitGroup
	for n := range 8 {
		all.Go(func() {
			for i := range 3 * len(rows) {
				l := rows[(i*(n+1)+n)%len(rows)]
				if got := near.Ahead(l); !slices.Equal(got, plainAhead(l)) {
					t.Errorf("Ahead(%v) = %v", l, got)
				}
				if got := near.Behind(l); !slices.Equal(got, plainBehind(l)) {
					t.Errorf("Behind(%v) = %v", l, got)
				}
			}
		})
	}
	all.Wait()
}
