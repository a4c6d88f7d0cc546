package tests

import (
	"math"
	"slices"
	"testing"

	"loop.example/sumsthatadd/impl"
)

// wrongPayments are lists that WorthOf does not take.
var wrongPayments = [][]int{
	nil,
	{},
	{1001},
	{-1001},
	{0, 1001},
	{-1001, 0},
	{1, 2, 3, 4, 5, 6, 7, 1001},
	{-1001, 1001},
	{math.MaxInt},
	{math.MinInt},
	{math.MaxInt, math.MinInt, 1},
	repeated(0, 9),
	repeated(1000, 9),
}

// wrongInterest are parts and bases of which one is not valid.
var wrongInterest = [][]int{
	{-1, 10}, {11, 10}, {math.MinInt, 10}, {math.MaxInt, 10},
	{1, 0}, {0, 0}, {1, -1}, {2, -1}, {-1, -1}, {1, 11}, {11, 11}, {1, math.MinInt}, {1, math.MaxInt}, {math.MaxInt, math.MaxInt},
}

// eachInterest calls f with all parts and bases that WorthOf takes.
func eachInterest(f func(part int, base int)) {
	for part := range 11 {
		for base := 1; base <= 10; base++ {
			f(part, base)
		}
	}
}

// eachPayments calls f with many lists of payments: short ones of small numbers, those at the limits, and others.
func eachPayments(f func(list []int)) {
	for n := 1; n <= 3; n++ {
		eachList(n, 4, func(list []int) {
			var payments []int
			for _, number := range list {
				payments = append(payments, []int{0, 1, -3, 1000, -1000}[number])
			}
			f(payments)
		})
	}
	for n := 1; n <= 8; n++ {
		f(repeated(1000, n))
		f(repeated(-1000, n))
		f(repeated(0, n))
		for seed := range 10 {
			next := mixed(seed)
			var payments []int
			for range n {
				payments = append(payments, next(2001)-1000)
			}
			f(payments)
		}
	}
}

// power returns a number multiplied by itself.
func power(n int, times int) int {
	out := 1
	for range times {
		out *= n
	}
	return out
}

// worthByHand returns what WorthOf is to return, payment by payment.
func worthByHand(list []int, part int, base int) (int, int) {
	up := 0
	for i, payment := range list {
		up += payment * power(base, i+1) * power(base+part, len(list)-i-1)
	}
	return up, power(base+part, len(list))
}

func TestP29LastPaid(t *testing.T) {
	for _, c := range []struct {
		amount, n int
		want      []int
	}{
		{0, 1, []int{0}},
		{0, 3, []int{0, 0, 0}},
		{0, 8, repeated(0, 8)},
		{1, 1, []int{1}},
		{1000, 1, []int{1000}},
		{2, 4, []int{0, 0, 0, 2}},
		{7, 8, []int{0, 0, 0, 0, 0, 0, 0, 7}},
		{8, 8, repeated(1, 8)},
		{15, 8, []int{1, 1, 1, 1, 1, 1, 1, 8}},
		{100, 2, []int{50, 50}},
		{100, 3, []int{33, 33, 34}},
		{11, 4, []int{2, 2, 2, 5}},
		{1000, 7, []int{142, 142, 142, 142, 142, 142, 148}},
		{1000, 8, repeated(125, 8)},
	} {
		if got := impl.LastPaid(c.amount, c.n); !slices.Equal(got, c.want) {
			t.Errorf("LastPaid(%d, %d) = %v, not %v", c.amount, c.n, got, c.want)
		}
	}
	for _, c := range [][]int{
		{-1, 3}, {1001, 3}, {-1, 1}, {1001, 1}, {math.MinInt, 3}, {math.MaxInt, 3},
		{1, 0}, {0, 0}, {1, -1}, {1, 9}, {0, 9}, {1, math.MinInt}, {1, math.MaxInt}, {-1, 0}, {1001, 9},
	} {
		if got := impl.LastPaid(c[0], c[1]); got != nil {
			t.Errorf("LastPaid(%d, %d) = %v", c[0], c[1], got)
		}
	}
}

func TestP29EqualAmountsAddUp(t *testing.T) {
	for amount := range 1001 {
		for n := 1; n <= 8; n++ {
			got := impl.LastPaid(amount, n)
			if len(got) != n || total(got) != amount || slices.Max(got) != lastOf(got) {
				t.Fatalf("LastPaid(%d, %d) = %v", amount, n, got)
			}
			// No less could be missing in the last one.
			if lastOf(got)-got[0] >= n || !slices.Equal(got[:n-1], repeated(got[0], n-1)) {
				t.Fatalf("LastPaid(%d, %d) = %v is not equal", amount, n, got)
			}
		}
	}
}

func TestP30WorthOf(t *testing.T) {
	for _, c := range []struct {
		list             []int
		part, base       int
		wantUp, wantDown int
	}{
		{[]int{11}, 1, 10, 110, 11},
		{[]int{0, 121}, 1, 10, 12100, 121},
		{[]int{11, 121}, 1, 10, 13310, 121},
		{[]int{121, 11}, 1, 10, 14410, 121},
		{[]int{5, -3}, 0, 2, 8, 4},
		{[]int{0}, 0, 1, 0, 1},
		{[]int{0, 0, 0}, 10, 10, 0, 8000},
		{[]int{-1000}, 10, 1, -1000, 11},
		{[]int{1000}, 0, 10, 10000, 10},
		{[]int{3, -3}, 1, 1, 3, 4},
		{[]int{-3, 3}, 1, 1, -3, 4},
		{[]int{1, 2, 4}, 1, 1, 12, 8},
		// The fraction is not shortened.
		{[]int{2}, 2, 2, 4, 4},
		{repeated(1000, 8), 0, 1, 8000, 1},
		{repeated(1000, 8), 0, 10, 800000000000, 100000000},
		{repeated(1000, 8), 10, 10, 25500000000000, 25600000000},
		{repeated(-1000, 8), 10, 10, -25500000000000, 25600000000},
		{repeated(1000, 8), 10, 1, 21435888000, 214358881},
	} {
		if up, down := impl.WorthOf(c.list, c.part, c.base); up != c.wantUp || down != c.wantDown {
			t.Errorf("WorthOf(%v, %d, %d) = %d, %d, not %d, %d", c.list, c.part, c.base, up, down, c.wantUp, c.wantDown)
		}
	}
	eachPayments(func(list []int) {
		eachInterest(func(part int, base int) {
			up, down := impl.WorthOf(list, part, base)
			if wantUp, wantDown := worthByHand(list, part, base); up != wantUp || down != wantDown {
				t.Fatalf("WorthOf(%v, %d, %d) = %d, %d, not %d, %d", list, part, base, up, down, wantUp, wantDown)
			}
		})
	})
}

func TestP30WorthOfOtherArguments(t *testing.T) {
	for _, list := range wrongPayments {
		for _, c := range append([][]int{{0, 1}, {1, 10}, {10, 1}, {10, 10}}, wrongInterest...) {
			if up, down := impl.WorthOf(list, c[0], c[1]); up != 0 || down != 0 {
				t.Errorf("WorthOf(%v, %d, %d) = %d, %d", list, c[0], c[1], up, down)
			}
		}
	}
	for _, list := range [][]int{{0}, {1}, {5, -3}, repeated(1000, 8)} {
		for _, c := range wrongInterest {
			if up, down := impl.WorthOf(list, c[0], c[1]); up != 0 || down != 0 {
				t.Errorf("WorthOf(%v, %d, %d) = %d, %d", list, c[0], c[1], up, down)
			}
		}
	}
}

func TestP30WorthAddsUp(t *testing.T) {
	eachPayments(func(list []int) {
		later := slices.Clone(list)
		later[0] = 0
		eachInterest(func(part int, base int) {
			up, down := impl.WorthOf(list, part, base)
			first, firstDown := impl.WorthOf(list[:1], part, base)
			others, othersDown := impl.WorthOf(later, part, base)
			if down != othersDown || down != firstDown*power(base+part, len(list)-1) || up != others+first*(down/firstDown) {
				t.Fatalf("WorthOf(%v, %d, %d) = %d, %d, and of the first one %d, %d, and of the others %d, %d", list, part, base, up, down, first, firstDown, others, othersDown)
			}
			if len(list) > 1 {
				// One time later they are worth base of base plus part of what they are worth at once.
				if sooner, soonerDown := impl.WorthOf(list[1:], part, base); others != sooner*base || othersDown != soonerDown*(base+part) {
					t.Fatalf("WorthOf(%v, %d, %d) = %d, %d, and one time later %d, %d", list[1:], part, base, sooner, soonerDown, others, othersDown)
				}
			}
			if part == 0 && up != total(list)*down {
				t.Fatalf("WorthOf(%v, 0, %d) = %d, %d, which is not the sum", list, base, up, down)
			}
		})
	})
}

func TestP31DoublesAfter(t *testing.T) {
	for _, c := range []struct{ part, base, want int }{
		{1, 10, 8},
		{2, 10, 4},
		{1, 5, 4},
		{3, 10, 3},
		{4, 10, 3},
		{5, 10, 2},
		{1, 2, 2},
		{1, 3, 3},
		{1, 7, 6},
		{9, 10, 2},
		{10, 10, 1},
		{1, 1, 1},
		{2, 1, 1},
		{10, 1, 1},
		{10, 9, 1},
	} {
		if got := impl.DoublesAfter(c.part, c.base); got != c.want {
			t.Errorf("DoublesAfter(%d, %d) = %d, not %d", c.part, c.base, got, c.want)
		}
	}
	for _, c := range append([][]int{{0, 1}, {0, 10}}, wrongInterest...) {
		if got := impl.DoublesAfter(c[0], c[1]); got != -1 {
			t.Errorf("DoublesAfter(%d, %d) = %d", c[0], c[1], got)
		}
	}
	for part := -2; part <= 13; part++ {
		for base := -2; base <= 13; base++ {
			valid := 1 <= part && part <= 10 && 1 <= base && base <= 10
			if got := impl.DoublesAfter(part, base); (got > 0) != valid || (got == -1) == valid {
				t.Errorf("DoublesAfter(%d, %d) = %d", part, base, got)
			}
		}
	}
}

func TestP31AmountsDoubleJustThen(t *testing.T) {
	eachInterest(func(part int, base int) {
		if part == 0 {
			return
		}
		times := impl.DoublesAfter(part, base)
		if times < 1 || power(base+part, times) < 2*power(base, times) || power(base+part, times-1) >= 2*power(base, times-1) {
			t.Errorf("DoublesAfter(%d, %d) = %d", part, base, times)
		}
	})
}

func TestC4ArgumentsAndResults(t *testing.T) {
	l, list := impl.Loan{Amount: 100, Part: 1, Base: 10, Times: 2}, []int{5, -3, 9, 9}[:2]
	for range 2 {
		left, paid, parts := append(impl.LeftAfter(l, 60), 9), append(impl.PaidOf(l, 60), 9), append(impl.LastPaid(100, 3), 9)
		left[0]++
		paid[0]++
		parts[0]++
		if !slices.Equal(left, []int{51, 0, 9}) || !slices.Equal(paid, []int{61, 55, 9}) || !slices.Equal(parts, []int{34, 33, 34, 9}) {
			t.Errorf("called again: %v, %v, %v", left, paid, parts)
		}
		up, down := impl.WorthOf(list, 0, 2)
		if least := impl.LeastPay(l); least != 58 || up != 8 || down != 4 {
			t.Errorf("called again: %d, %d, %d", least, up, down)
		}
	}
	if !slices.Equal(list[:4], []int{5, -3, 9, 9}) {
		t.Errorf("the payments are %v", list[:4])
	}
}
