package tests

import (
	"math"
	"slices"
	"testing"

	"loop.example/sumsthatadd/impl"
)

// someGrids are grids that eachGrid takes beside the small ones.
var someGrids = [][][]int{
	{{impl.MaxWeight}},
	{{7, 12, 1}},
	{{7}, {12}, {1}},
	{{1, 2, 3}, {4, 5, 6}, {7, 8, 9}},
	{{1, 1, 1}, {1, 1, 1}, {1, 1, 1}},
	{{0, 5, 5}, {5, 0, 5}, {5, 5, 0}},
	{{50, 49, 48}, {47, 46, 45}, {44, 43, 42}},
	{{50, 50, 50}, {50, 50, 50}, {50, 50, 50}},
	{{0, 0, 0}, {0, 0, 0}, {0, 0, 0}},
	{{13, 0, 29}, {50, 7, 31}},
	{{13, 50}, {0, 7}, {29, 31}},
}

// wrongGrids are rows that cannot be rounded.
var wrongGrids = [][][]int{
	nil,
	{},
	{{}},
	{nil, nil},
	{{1}, {}},
	{{}, {1}},
	{{1}, {1, 2}},
	{{1, 2}, {1}},
	{{1, 2}, {1, 2}, {1}},
	{{-1}},
	{{1, 2}, {3, -1}},
	{{impl.MaxWeight + 1}},
	{{1, 2}, {3, impl.MaxWeight + 1}},
	{{math.MaxInt}},
	{{math.MinInt}},
	{{1, 2, 3, 4}},
	{{1}, {2}, {3}, {4}},
}

// wrongUnits are numbers that are no units.
var wrongUnits = []int{0, -1, impl.MaxUnit + 1, math.MinInt, math.MaxInt}

// eachGrid calls f with many grids and all units.
func eachGrid(f func(grid [][]int, unit int)) {
	for unit := 1; unit <= impl.MaxUnit; unit++ {
		eachList(3, 6, func(list []int) {
			f(rowsOf(list, 3), unit)
			f(rowsOf(list, 1), unit)
		})
		eachList(4, 4, func(list []int) { f(rowsOf(list, 2), unit) })
		eachList(6, 2, func(list []int) {
			f(rowsOf(list, 3), unit)
			f(rowsOf(list, 2), unit)
		})
		for _, grid := range someGrids {
			f(cloneRows(grid), unit)
		}
	}
}

// eachSquare calls f with grids of 3 rows of 3 numbers and some units.
func eachSquare(f func(grid [][]int, unit int)) {
	for _, unit := range []int{2, 3, 7} {
		eachList(9, 2, func(list []int) {
			if (list[0]+2*list[4]+3*list[8]+list[1]*list[3])%5 == 0 {
				f(rowsOf(list, 3), unit)
			}
		})
	}
}

// isQuotient reports whether n is a number divided by a unit, rounded down or up.
func isQuotient(n int, number int, unit int) bool {
	return n == number/unit || number%unit != 0 && n == number/unit+1
}

// roundedByHand tells what IsRounded is to tell of rows of the form of a valid grid.
func roundedByHand(grid [][]int, unit int, out [][]int) bool {
	for i, row := range grid {
		for j, n := range row {
			if !isQuotient(out[i][j], n, unit) {
				return false
			}
		}
	}
	for i, row := range grid {
		if !isQuotient(total(out[i]), total(row), unit) {
			return false
		}
	}
	columns := turned(out)
	for j, column := range turned(grid) {
		if !isQuotient(total(columns[j]), total(column), unit) {
			return false
		}
	}
	return isQuotient(total(slices.Concat(out...)), total(slices.Concat(grid...)), unit)
}

// eachRounding calls f with all rows in which each number of the grid is rounded
// down or up, the least first, until it returns false. It is one list that changes.
func eachRounding(grid [][]int, unit int, f func(out [][]int) bool) {
	out := cloneRows(grid)
	width := len(grid[0])
	var fill func(at int) bool
	fill = func(at int) bool {
		if at == len(grid)*width {
			return f(out)
		}
		i, j := at/width, at%width
		for n := grid[i][j] / unit; isQuotient(n, grid[i][j], unit); n++ {
			out[i][j] = n
			if !fill(at + 1) {
				return false
			}
		}
		return true
	}
	fill(0)
}

func TestP6IsRounded(t *testing.T) {
	fives := [][]int{{5, 5}, {5, 5}}
	for _, c := range []struct {
		grid [][]int
		unit int
		out  [][]int
		want bool
	}{
		{fives, 10, [][]int{{0, 1}, {1, 0}}, true},
		{fives, 10, [][]int{{1, 0}, {0, 1}}, true},
		{fives, 10, [][]int{{1, 1}, {0, 0}}, false},
		{fives, 10, [][]int{{1, 0}, {1, 0}}, false},
		{fives, 10, [][]int{{0, 0}, {0, 0}}, false},
		{[][]int{{1, 4}, {4, 1}}, 10, [][]int{{0, 0}, {0, 0}}, false},
		{[][]int{{1, 4}, {4, 1}}, 10, [][]int{{0, 1}, {1, 0}}, false},
		{[][]int{{1, 4}, {4, 1}}, 10, [][]int{{0, 1}, {0, 0}}, true},
		{[][]int{{4, 6}}, 5, [][]int{{1, 1}}, true},
		{[][]int{{4, 6}}, 5, [][]int{{0, 2}}, true},
		{[][]int{{4, 6}}, 5, [][]int{{0, 1}}, false},
		{[][]int{{4, 6}}, 5, [][]int{{1, 2}}, false},
		{[][]int{{0}}, 1, [][]int{{0}}, true},
		{[][]int{{0}}, impl.MaxUnit, [][]int{{1}}, false},
		{[][]int{{impl.MaxWeight}}, 1, [][]int{{impl.MaxWeight}}, true},
		{[][]int{{impl.MaxWeight}}, impl.MaxUnit, [][]int{{4}}, true},
		{[][]int{{impl.MaxWeight}}, impl.MaxUnit, [][]int{{5}}, true},
		{[][]int{{impl.MaxWeight}}, impl.MaxUnit, [][]int{{3}}, false},
		{[][]int{{impl.MaxWeight}}, impl.MaxUnit, [][]int{{6}}, false},
		{fives, 10, [][]int{{2, -1}, {-1, 2}}, false},
		{fives, 10, [][]int{{math.MaxInt, math.MinInt + 2}, {math.MinInt + 2, math.MaxInt}}, false},
	} {
		if got := impl.IsRounded(c.grid, c.unit, c.out); got != c.want {
			t.Errorf("IsRounded(%v, %d, %v) = %v", c.grid, c.unit, c.out, got)
		}
	}
}

func TestP6IsRoundedOfOtherArguments(t *testing.T) {
	for _, grid := range wrongGrids {
		if impl.IsRounded(grid, 1, grid) {
			t.Errorf("IsRounded(%v, 1, the same) = true", grid)
		}
	}
	for _, unit := range wrongUnits {
		if impl.IsRounded([][]int{{0}}, unit, [][]int{{0}}) {
			t.Errorf("IsRounded({{0}}, %d, {{0}}) = true", unit)
		}
	}
	for _, out := range [][][]int{
		nil, {}, {{}}, {{0, 0}}, {{0, 0, 0, 0}}, {{0}, {0}}, {{0, 0}, {0}}, {{0}, {0, 0}},
		{{0, 0}, nil}, {{0, 0}, {0, 0}, {0, 0}}, {{0, 0}, {0, 0}, {}}, {{0, 0, 0}, {0, 0, 0}},
		{{0, 0, 0, 0, 0}, {0, 0, 0, 0, 0}}, {{0, 0}, {0, 0}, {0, 0}, {0, 0}, {0, 0}},
	} {
		if impl.IsRounded([][]int{{0, 0}, {0, 0}}, 5, out) {
			t.Errorf("IsRounded({{0, 0}, {0, 0}}, 5, %v) = true", out)
		}
	}
}

func TestP6RoundedTablesTurnedRound(t *testing.T) {
	look := func(grid [][]int, unit int) {
		eachRounding(grid, unit, func(out [][]int) bool {
			got := impl.IsRounded(grid, unit, out)
			if got != roundedByHand(grid, unit, out) {
				t.Fatalf("IsRounded(%v, %d, %v) = %v", grid, unit, out, got)
			}
			if got != impl.IsRounded(turned(grid), unit, turned(out)) {
				t.Fatalf("IsRounded(%v, %d, %v) is not the same turned round", grid, unit, out)
			}
			return true
		})
	}
	for _, unit := range []int{3, 5, 12} {
		for _, grid := range someGrids {
			look(grid, unit)
		}
		eachList(4, 3, func(list []int) { look(rowsOf(list, 2), unit) })
	}
	eachList(4, 2, func(out []int) {
		grid := [][]int{{2, 1}, {0, 5}}
		if got := impl.IsRounded(grid, 3, rowsOf(out, 2)); got != roundedByHand(grid, 3, rowsOf(out, 2)) {
			t.Errorf("IsRounded(%v, 3, %v) = %v", grid, rowsOf(out, 2), got)
		}
	})
}

func TestP7RoundGrid(t *testing.T) {
	for _, c := range []struct {
		grid [][]int
		unit int
		want [][]int
	}{
		{[][]int{{5, 5}, {5, 5}}, 10, [][]int{{0, 1}, {1, 0}}},
		{[][]int{{7, 12, 1}}, 5, [][]int{{1, 2, 1}}},
		{[][]int{{7}, {12}, {1}}, 5, [][]int{{1}, {2}, {1}}},
		{[][]int{{0}}, impl.MaxUnit, [][]int{{0}}},
		{[][]int{{3}}, 2, [][]int{{1}}},
		{[][]int{{impl.MaxWeight}}, 1, [][]int{{impl.MaxWeight}}},
		{[][]int{{impl.MaxWeight}}, impl.MaxUnit, [][]int{{4}}},
		{[][]int{{1, 1, 1}, {1, 1, 1}, {1, 1, 1}}, 3, [][]int{{0, 0, 1}, {0, 1, 0}, {1, 0, 0}}},
	} {
		if got := impl.RoundGrid(c.grid, c.unit); !sameRows(got, c.want) {
			t.Errorf("RoundGrid(%v, %d) = %v, not %v", c.grid, c.unit, got, c.want)
		}
	}
	for _, grid := range wrongGrids {
		if got := impl.RoundGrid(grid, 5); got != nil {
			t.Errorf("RoundGrid(%v, 5) = %v", grid, got)
		}
	}
	for _, unit := range wrongUnits {
		if got := impl.RoundGrid([][]int{{1}}, unit); got != nil {
			t.Errorf("RoundGrid({{1}}, %d) = %v", unit, got)
		}
	}
}

func TestP7AllGridsCanBeRounded(t *testing.T) {
	look := func(grid [][]int, unit int) {
		kept := cloneRows(grid)
		got := impl.RoundGrid(grid, unit)
		if !sameRows(grid, kept) {
			t.Fatalf("RoundGrid(%v, %d) made the grid %v", kept, unit, grid)
		}
		if !impl.IsRounded(grid, unit, got) {
			t.Fatalf("RoundGrid(%v, %d) = %v is not rounded", grid, unit, got)
		}
		eachRounding(grid, unit, func(out [][]int) bool {
			if !roundedByHand(grid, unit, out) {
				return true
			}
			if !sameRows(got, out) {
				t.Fatalf("RoundGrid(%v, %d) = %v, not %v", grid, unit, got, out)
			}
			return false
		})
	}
	eachGrid(look)
	eachSquare(look)
}

func TestC1GridArgumentsAndResults(t *testing.T) {
	grid, out := [][]int{{5, 5}, {5, 5}}, [][]int{{0, 1}, {1, 0}}
	if !impl.IsRounded(grid, 10, out) || !sameRows(grid, [][]int{{5, 5}, {5, 5}}) || !sameRows(out, [][]int{{0, 1}, {1, 0}}) {
		t.Errorf("IsRounded made the grid %v, and the rows %v", grid, out)
	}
	got := impl.RoundGrid(grid, 1)
	got[0] = append(got[0], 9, 9)
	got[0][0]++
	if !slices.Equal(got[1], []int{5, 5}) || !sameRows(grid, [][]int{{5, 5}, {5, 5}}) {
		t.Errorf("rows of the result share memory: %v of %v", got, grid)
	}
}
