package near_test

import (
	"math/rand/v2"
	"slices"
)

func source(seed uint64) *rand.Rand { return rand.New(rand.NewPCG(15, seed)) }

// plainAhead looks at each place ahead, the nearest first.
func plainAhead(l []int) []int {
	near := make([]int, len(l))
	for i := range l {
		j := i - 1
		for j >= 0 && l[j] >= l[i] {
			j--
		}
		near[i] = j
	}
	return near
}

// plainBehind looks at each place behind, the nearest first.
func plainBehind(l []int) []int {
	near := make([]int, len(l))
	for i := range l {
		j := i + 1
		for j < len(l) && l[j] >= l[i] {
			j++
		}
		near[i] = j
	}
	return near
}

// eachRow goes through all rows of up to n of these numbers.
func eachRow(n int, values []int, do func(l []int)) {
	var each func(l []int)
	each = func(l []int) {
		do(l)
		if len(l) < n {
			for _, v := range values {
				each(append(slices.Clone(l), v))
			}
		}
	}
	each(nil)
}

// rising is the numbers from least on, n of them.
func rising(least, n int) []int {
	l := make([]int, n)
	for i := range l {
		l[i] = least + i
	}
	return l
}

// turned is a row, the last number first.
func turned(l []int) []int {
	l = slices.Clone(l)
	slices.Reverse(l)
	return l
}

// falling is the same numbers as rising, the greatest first.
func falling(least, n int) []int { return turned(rising(least, n)) }

// like is n times one number.
func like(v, n int) []int { return slices.Repeat([]int{v}, n) }

// rough is n numbers, up to so many of them others, from some number on that may be below 0.
func rough(r *rand.Rand, n, others int) []int {
	least := -r.IntN(others + 1)
	l := make([]int, n)
	for i := range l {
		l[i] = least + r.IntN(others)
	}
	return l
}

// walk is n numbers, each near to the one ahead of it.
func walk(r *rand.Rand, n int) []int {
	l, v := make([]int, n), 0
	for i := range l {
		v += r.IntN(5) - 2
		l[i] = v
	}
	return l
}

// ruler is n numbers, each as many as how often its place, counted from 1, can be halved.
func ruler(n int) []int {
	l := make([]int, n)
	for i := range l {
		for at := i + 1; at%2 == 0; at /= 2 {
			l[i]++
		}
	}
	return l
}
