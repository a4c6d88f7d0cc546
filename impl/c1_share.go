// Package impl is about money that must add up.
package impl

// MaxWeight is the greatest weight.
const MaxWeight = 50

// MaxParts is the largest number of parts.
const MaxParts = 8

// MaxAmount is the greatest amount.
const MaxAmount = 100000

// MaxSide is the largest number of rows and of columns.
const MaxSide = 3

// MaxUnit is the greatest unit.
const MaxUnit = 12

// table holds a grid at its start, the sums of its rows in its last column,
// the sums of its columns in its last row, and the sum of all in the corner.
type table [MaxSide + 1][MaxSide + 1]int

// ValidParts reports whether numbers are the weights of parts.
func ValidParts(weights []int) bool {
	return inRange(len(weights), 1, MaxParts) && allInRange(weights, 0, MaxWeight) && sumOf(weights) > 0
}

// ShareByRest returns shares by the largest rests.
func ShareByRest(total int, weights []int) []int {
	if !canShare(total, weights) {
		return nil
	}
	sum := sumOf(weights)
	shares := make([]int, len(weights))
	for i, w := range weights {
		shares[i] = total * w / sum
	}
	left := total - sumOf(shares)
	isAhead := func(i, j int) bool {
		a, b := total*weights[i]%sum, total*weights[j]%sum
		return a > b || a == b && i < j
	}
parts:
	for i := range shares {
		ahead := 0
		for j := range shares {
			if isAhead(j, i) {
				ahead++
			}
			if ahead >= left {
				continue parts
			}
		}
		shares[i]++
	}
	return shares
}

// ShareBySums returns shares by rounded sums.
func ShareBySums(total int, weights []int) []int {
	if !canShare(total, weights) {
		return nil
	}
	sum := sumOf(weights)
	shares := make([]int, len(weights))
	upTo, given := 0, 0
	for i, w := range weights {
		upTo += w
		sumUpTo := halvesUp(total*upTo, sum)
		shares[i] = sumUpTo - given
		given = sumUpTo
	}
	return shares
}

// SplitEven returns equal shares.
func SplitEven(total int, n int) []int {
	if !inRange(total, 0, MaxAmount) || !inRange(n, 1, MaxParts) {
		return nil
	}
	shares := make([]int, n)
	for i := range shares {
		shares[i] = total / n
		if i < total%n {
			shares[i]++
		}
	}
	return shares
}

// IsFair reports whether shares are rounded down or up.
func IsFair(total int, weights []int, shares []int) bool {
	if !canShare(total, weights) || len(shares) != len(weights) {
		return false
	}
	sum := sumOf(weights)
	for i, w := range weights {
		if shares[i] != nearest(shares[i], total*w, sum) {
			return false
		}
	}
	return sumOf(shares) == total
}

// IsRounded reports whether a table is rounded with all its sums.
func IsRounded(grid [][]int, unit int, out [][]int) bool {
	if !canRound(grid, unit) || !sameForm(grid, out) {
		return false
	}
	rounded := tableOf(out)
	return rounded == nearestTable(rounded, tableOf(grid), unit)
}

// RoundGrid returns a table rounded with all its sums.
func RoundGrid(grid [][]int, unit int) [][]int {
	if !canRound(grid, unit) {
		return nil
	}
	out := roundedDown(grid, unit)
	for !IsRounded(grid, unit, out) {
		if !roundNext(grid, unit, out) {
			return nil
		}
	}
	return out
}

// canShare reports whether a total can be shared by weights.
func canShare(total int, weights []int) bool {
	return inRange(total, 0, MaxAmount) && ValidParts(weights)
}

// canRound reports whether rows are a grid that can be rounded by a unit.
func canRound(grid [][]int, unit int) bool {
	if !inRange(len(grid), 1, MaxSide) || !inRange(unit, 1, MaxUnit) {
		return false
	}
	for _, row := range grid {
		if !inRange(len(row), 1, MaxSide) || len(row) != len(grid[0]) || !allInRange(row, 0, MaxWeight) {
			return false
		}
	}
	return true
}

// sameForm reports whether rows are as many and as long as others.
func sameForm(a [][]int, b [][]int) bool {
	if len(a) != len(b) {
		return false
	}
	for i := range a {
		if len(a[i]) != len(b[i]) {
			return false
		}
	}
	return true
}

// tableOf returns rows, MaxSide of MaxSide numbers at most, with their sums.
func tableOf(rows [][]int) table {
	var t table
	for i, row := range rows {
		for j, n := range row {
			t[i][j] = n
			t[i][MaxSide] += n
			t[MaxSide][j] += n
			t[MaxSide][MaxSide] += n
		}
	}
	return t
}

// nearestTable returns a table with nearest for each of its numbers and that of
// another one divided by the unit. A table stays as it is if it is rounded: sums
// that are too great for an int do not matter, since then some number changes.
func nearestTable(t table, exact table, unit int) table {
	for i := range t {
		for j := range t[i] {
			t[i][j] = nearest(t[i][j], exact[i][j], unit)
		}
	}
	return t
}

// roundedDown returns the grid with all numbers divided by the unit, rounded down.
func roundedDown(grid [][]int, unit int) [][]int {
	out := make([][]int, len(grid))
	for i, row := range grid {
		out[i] = make([]int, len(row))
		for j, n := range row {
			out[i][j] = n / unit
		}
	}
	return out
}

// roundNext changes the rows out to the next ones in which each number of the grid
// is rounded down or up, in the order of the first place where two differ.
// It reports whether there are any.
func roundNext(grid [][]int, unit int, out [][]int) bool {
	for i := len(grid) - 1; i >= 0; i-- {
		for j := len(grid[i]) - 1; j >= 0; j-- {
			down := grid[i][j] / unit
			if out[i][j] == down && grid[i][j]%unit != 0 {
				out[i][j]++
				return true
			}
			out[i][j] = down
		}
	}
	return false
}

// nearest returns the closest to n of the quotient a / b, for a of at least 0, rounded down or up.
func nearest(n int, a int, b int) int {
	return min(max(n, a/b), (a+b-1)/b)
}

// halvesUp returns the quotient a / b, for a of at least 0, rounded, halves up.
func halvesUp(a int, b int) int {
	return (2*a + b) / (2 * b)
}

// inRange reports whether n is one of the numbers from low up to high.
func inRange(n int, low int, high int) bool {
	return low <= n && n <= high
}

// allInRange reports whether all numbers are from low up to high.
func allInRange(list []int, low int, high int) bool {
	for _, n := range list {
		if !inRange(n, low, high) {
			return false
		}
	}
	return true
}

// sumOf returns the sum of numbers.
func sumOf(list []int) int {
	sum := 0
	for _, n := range list {
		sum += n
	}
	return sum
}
