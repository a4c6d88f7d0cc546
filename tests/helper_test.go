package tests

import "slices"

// eachList calls f with every list of n numbers in 0..most. It is one list that changes.
func eachList(n int, most int, f func(list []int)) {
	list := make([]int, n)
	var fill func(at int)
	fill = func(at int) {
		if at == n {
			f(list)
			return
		}
		for list[at] = 0; list[at] < most; list[at]++ {
			fill(at + 1)
		}
		fill(at + 1)
	}
	fill(0)
}

// repeated returns a list of n times the same number.
func repeated(n int, times int) []int {
	return slices.Repeat([]int{n}, times)
}

// total returns the sum of a list.
func total(list []int) int {
	sum := 0
	for _, n := range list {
		sum += n
	}
	return sum
}

// reversed returns a list the other way round.
func reversed(list []int) []int {
	out := slices.Clone(list)
	slices.Reverse(out)
	return out
}

// sameRows reports whether rows have the same elements.
func sameRows[T comparable](a [][]T, b [][]T) bool {
	return slices.EqualFunc(a, b, func(x []T, y []T) bool { return slices.Equal(x, y) })
}

// cloneRows returns rows in new memory.
func cloneRows[T any](rows [][]T) [][]T {
	out := make([][]T, len(rows))
	for i, row := range rows {
		out[i] = slices.Clone(row)
	}
	return out
}

// turned returns rows of the same length with columns as rows.
func turned(rows [][]int) [][]int {
	out := make([][]int, len(rows[0]))
	for j := range out {
		for _, row := range rows {
			out[j] = append(out[j], row[j])
		}
	}
	return out
}

// rowsOf cuts a list into rows of a length.
func rowsOf(list []int, length int) [][]int {
	var out [][]int
	for row := range slices.Chunk(list, length) {
		out = append(out, slices.Clone(row))
	}
	return out
}
