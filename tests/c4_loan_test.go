package tests

import (
	"math"
	"slices"
	"testing"

	"loop.example/sumsthatadd/impl"
)

// someAmounts are amounts of the loans that eachLoan takes.
var someAmounts = []int{0, 1, 2, 3, 4, 5, 6, 7, 9, 10, 11, 15, 49, 50, 51, 99, 100, 101, 105, 333, 499, 500, 777, 998, 999, 1000}

// wrongLoans are loans that are not valid.
var wrongLoans = []impl.Loan{
	{},
	{Amount: 100},
	{Amount: -1, Part: 1, Base: 10, Times: 2},
	{Amount: 1001, Part: 1, Base: 10, Times: 2},
	{Amount: math.MinInt, Part: 1, Base: 10, Times: 2},
	{Amount: math.MaxInt, Part: 1, Base: 10, Times: 2},
	{Amount: 100, Part: -1, Base: 10, Times: 2},
	{Amount: 100, Part: 11, Base: 10, Times: 2},
	{Amount: 100, Part: 2, Base: 1, Times: 2},
	{Amount: 0, Part: 2, Base: 1, Times: 1},
	{Amount: 100, Part: 10, Base: 9, Times: 2},
	{Amount: 100, Part: math.MinInt, Base: 10, Times: 2},
	{Amount: 100, Part: math.MaxInt, Base: 10, Times: 2},
	{Amount: 100, Part: 0, Base: 0, Times: 2},
	{Amount: 0, Part: 0, Base: 0, Times: 1},
	{Amount: 100, Part: 1, Base: 0, Times: 2},
	{Amount: 100, Part: 0, Base: -1, Times: 2},
	{Amount: 100, Part: -1, Base: -1, Times: 2},
	{Amount: 100, Part: 1, Base: 11, Times: 2},
	{Amount: 100, Part: 11, Base: 11, Times: 2},
	{Amount: 100, Part: 1, Base: math.MinInt, Times: 2},
	{Amount: 100, Part: 1, Base: math.MaxInt, Times: 2},
	{Amount: 100, Part: 1, Base: 10, Times: 0},
	{Amount: 0, Part: 0, Base: 1, Times: 0},
	{Amount: 100, Part: 1, Base: 10, Times: 9},
	{Amount: 100, Part: 1, Base: 10, Times: -1},
	{Amount: 100, Part: 1, Base: 10, Times: math.MinInt},
	{Amount: 100, Part: 1, Base: 10, Times: math.MaxInt},
}

// wrongPay are numbers that are no pay.
var wrongPay = []int{-1, 2001, math.MinInt, math.MaxInt}

// eachLoan calls f with loans of these amounts, all parts of all bases, and all times.
func eachLoan(amounts []int, f func(l impl.Loan)) {
	for _, amount := range amounts {
		for base := 1; base <= 10; base++ {
			for part := 0; part <= base; part++ {
				for times := 1; times <= 8; times++ {
					f(impl.Loan{Amount: amount, Part: part, Base: base, Times: times})
				}
			}
		}
	}
}

// somePays returns pays for a loan: the limits, those near its interest, its equal
// parts, its amount and all of it with interest, and those near the least one.
func somePays(l impl.Loan) []int {
	interest, least := interestByHand(l.Amount, l.Part, l.Base), impl.LeastPay(l)
	var pays []int
	for _, pay := range []int{0, interest, least, l.Amount / l.Times, l.Amount, l.Amount + interest, 1000, 2000} {
		for _, near := range []int{pay - 1, pay, pay + 1} {
			if 0 <= near && near <= 2000 {
				pays = append(pays, near)
			}
		}
	}
	slices.Sort(pays)
	return slices.Compact(pays)
}

// interestByHand returns the interest of any amount: the whole part, and one more if the rest is at least a half.
func interestByHand(amount int, part int, base int) int {
	whole, rest := amount*part/base, amount*part%base
	if rest >= base-rest {
		whole++
	}
	return whole
}

// paidBackByHand returns what LeftAfter and PaidOf are to return.
func paidBackByHand(l impl.Loan, pay int) (left []int, paid []int) {
	due := l.Amount
	for range l.Times {
		due += interestByHand(due, l.Part, l.Base)
		paid = append(paid, min(pay, due))
		due = max(0, due-pay)
		left = append(left, due)
	}
	return left, paid
}

// lastOf returns the last number of a list.
func lastOf(list []int) int {
	return list[len(list)-1]
}

func TestC4Limits(t *testing.T) {
	if impl.MaxLoan != 1000 || impl.MaxBase != 10 || impl.MaxTimes != 8 {
		t.Errorf("the limits are %d, %d and %d", impl.MaxLoan, impl.MaxBase, impl.MaxTimes)
	}
}

func TestP24ValidLoan(t *testing.T) {
	eachLoan(someAmounts, func(l impl.Loan) {
		if !impl.ValidLoan(l) {
			t.Fatalf("ValidLoan(%v) = false", l)
		}
	})
	for _, l := range wrongLoans {
		if impl.ValidLoan(l) {
			t.Errorf("ValidLoan(%v) = true", l)
		}
	}
	for amount := -3; amount <= 1003; amount++ {
		l := impl.Loan{Amount: amount, Part: 1, Base: 10, Times: 2}
		if got, want := impl.ValidLoan(l), 0 <= amount && amount <= 1000; got != want {
			t.Errorf("ValidLoan(%v) = %v", l, got)
		}
	}
	for base := -2; base <= 13; base++ {
		for part := -2; part <= 14; part++ {
			for times := -2; times <= 11; times++ {
				l := impl.Loan{Amount: 1000, Part: part, Base: base, Times: times}
				want := 1 <= base && base <= 10 && 0 <= part && part <= base && 1 <= times && times <= 8
				if got := impl.ValidLoan(l); got != want {
					t.Errorf("ValidLoan(%v) = %v", l, got)
				}
			}
		}
	}
}

func TestP24LoansMayBePaidBackSooner(t *testing.T) {
	eachLoan(someAmounts, func(l impl.Loan) {
		sooner := l
		sooner.Times--
		if got := impl.ValidLoan(sooner); got != (l.Times > 1) {
			t.Fatalf("ValidLoan(%v) = %v, and %v is a loan", sooner, got, l)
		}
	})
}

func TestP25InterestOf(t *testing.T) {
	for _, c := range []struct{ amount, part, base, want int }{
		{0, 1, 10, 0},
		{0, 10, 1, 0},
		{105, 1, 10, 11},
		{104, 1, 10, 10},
		{5, 3, 2, 8},
		{1, 1, 2, 1},
		{1, 1, 3, 0},
		{2, 1, 3, 1},
		{4, 1, 9, 0},
		{5, 1, 9, 1},
		{7, 0, 3, 0},
		{7, 3, 3, 7},
		{1000, 0, 1, 0},
		{1000, 1, 1, 1000},
		{1000, 10, 10, 1000},
		{1000, 10, 1, 10000},
		{999, 10, 4, 2498},
	} {
		if got := impl.InterestOf(c.amount, c.part, c.base); got != c.want {
			t.Errorf("InterestOf(%d, %d, %d) = %d, not %d", c.amount, c.part, c.base, got, c.want)
		}
	}
	for _, c := range [][]int{
		{-1, 1, 10}, {1001, 1, 10}, {math.MinInt, 1, 10}, {math.MaxInt, 1, 10},
		{1, -1, 10}, {1, 11, 10}, {0, 11, 10}, {1, math.MinInt, 10}, {1, math.MaxInt, 10},
		{1, 1, 0}, {0, 0, 0}, {1, 1, -1}, {-1, 1, -1}, {1, -1, -1}, {1, 1, 11}, {1, 1, math.MinInt}, {1, 1, math.MaxInt},
	} {
		if got := impl.InterestOf(c[0], c[1], c[2]); got != -1 {
			t.Errorf("InterestOf(%d, %d, %d) = %d", c[0], c[1], c[2], got)
		}
	}
}

func TestP25InterestIsRounded(t *testing.T) {
	for amount := -2; amount <= 1002; amount++ {
		for part := -1; part <= 11; part++ {
			for base := -1; base <= 11; base++ {
				got, want := impl.InterestOf(amount, part, base), -1
				if 0 <= amount && amount <= 1000 && 0 <= part && part <= 10 && 1 <= base && base <= 10 {
					want = interestByHand(amount, part, base)
				}
				if got != want {
					t.Fatalf("InterestOf(%d, %d, %d) = %d, not %d", amount, part, base, got, want)
				}
				// Of two that are just as near it is the greater one.
				if away := 2*got*base - 2*amount*part; got >= 0 && (away > base || away <= -base) {
					t.Fatalf("InterestOf(%d, %d, %d) = %d is not the nearest", amount, part, base, got)
				}
			}
		}
	}
}

func TestP26LeftAfterAndPaidOf(t *testing.T) {
	for _, c := range []struct {
		l          impl.Loan
		pay        int
		left, paid []int
	}{
		{impl.Loan{Amount: 100, Part: 1, Base: 10, Times: 2}, 60, []int{50, 0}, []int{60, 55}},
		{impl.Loan{Amount: 100, Part: 1, Base: 10, Times: 2}, 58, []int{52, 0}, []int{58, 57}},
		{impl.Loan{Amount: 100, Part: 1, Base: 10, Times: 2}, 57, []int{53, 1}, []int{57, 57}},
		{impl.Loan{Amount: 100, Part: 1, Base: 10, Times: 2}, 0, []int{110, 121}, []int{0, 0}},
		{impl.Loan{Amount: 100, Part: 1, Base: 10, Times: 2}, 110, []int{0, 0}, []int{110, 0}},
		{impl.Loan{Amount: 100, Part: 1, Base: 10, Times: 2}, 2000, []int{0, 0}, []int{110, 0}},
		// Just the interest is paid, one less, and one more.
		{impl.Loan{Amount: 100, Part: 1, Base: 10, Times: 3}, 10, []int{100, 100, 100}, []int{10, 10, 10}},
		{impl.Loan{Amount: 100, Part: 1, Base: 10, Times: 6}, 9, []int{101, 102, 103, 104, 105, 107}, []int{9, 9, 9, 9, 9, 9}},
		{impl.Loan{Amount: 100, Part: 1, Base: 10, Times: 8}, 11, []int{99, 98, 97, 96, 95, 94, 92, 90}, repeated(11, 8)},
		// Without interest.
		{impl.Loan{Amount: 100, Part: 0, Base: 1, Times: 3}, 34, []int{66, 32, 0}, []int{34, 34, 32}},
		{impl.Loan{Amount: 100, Part: 0, Base: 10, Times: 3}, 33, []int{67, 34, 1}, []int{33, 33, 33}},
		{impl.Loan{Amount: 100, Part: 0, Base: 7, Times: 3}, 0, []int{100, 100, 100}, []int{0, 0, 0}},
		// Loans of nothing.
		{impl.Loan{Amount: 0, Part: 0, Base: 1, Times: 1}, 0, []int{0}, []int{0}},
		{impl.Loan{Amount: 0, Part: 10, Base: 10, Times: 3}, 0, []int{0, 0, 0}, []int{0, 0, 0}},
		{impl.Loan{Amount: 0, Part: 1, Base: 1, Times: 8}, 2000, repeated(0, 8), repeated(0, 8)},
		// Interest of all.
		{impl.Loan{Amount: 100, Part: 3, Base: 3, Times: 3}, 100, []int{100, 100, 100}, []int{100, 100, 100}},
		{impl.Loan{Amount: 100, Part: 3, Base: 3, Times: 3}, 99, []int{101, 103, 107}, []int{99, 99, 99}},
		{impl.Loan{Amount: 7, Part: 1, Base: 1, Times: 3}, 8, []int{6, 4, 0}, []int{8, 8, 8}},
		{impl.Loan{Amount: 1000, Part: 10, Base: 10, Times: 8}, 0, []int{2000, 4000, 8000, 16000, 32000, 64000, 128000, 256000}, repeated(0, 8)},
		// One time.
		{impl.Loan{Amount: 1000, Part: 1, Base: 1, Times: 1}, 2000, []int{0}, []int{2000}},
		{impl.Loan{Amount: 1000, Part: 1, Base: 1, Times: 1}, 1999, []int{1}, []int{1999}},
		{impl.Loan{Amount: 5, Part: 1, Base: 10, Times: 1}, 6, []int{0}, []int{6}},
		{impl.Loan{Amount: 5, Part: 1, Base: 10, Times: 1}, 5, []int{1}, []int{5}},
		{impl.Loan{Amount: 4, Part: 1, Base: 10, Times: 1}, 5, []int{0}, []int{4}},
	} {
		if got := impl.LeftAfter(c.l, c.pay); !slices.Equal(got, c.left) {
			t.Errorf("LeftAfter(%v, %d) = %v, not %v", c.l, c.pay, got, c.left)
		}
		if got := impl.PaidOf(c.l, c.pay); !slices.Equal(got, c.paid) {
			t.Errorf("PaidOf(%v, %d) = %v, not %v", c.l, c.pay, got, c.paid)
		}
	}
}

func TestP26OtherArguments(t *testing.T) {
	look := func(l impl.Loan, pay int) {
		if left, paid := impl.LeftAfter(l, pay), impl.PaidOf(l, pay); left != nil || paid != nil {
			t.Errorf("of %v by %d: %v and %v", l, pay, left, paid)
		}
	}
	for _, l := range wrongLoans {
		for _, pay := range append([]int{0, 60, 2000}, wrongPay...) {
			look(l, pay)
		}
	}
	for _, pay := range wrongPay {
		look(impl.Loan{Amount: 0, Part: 0, Base: 1, Times: 1}, pay)
		look(impl.Loan{Amount: 100, Part: 1, Base: 10, Times: 2}, pay)
		look(impl.Loan{Amount: 1000, Part: 10, Base: 10, Times: 8}, pay)
	}
}

func TestP26WhatIsLeftIsWhatWasLeft(t *testing.T) {
	eachLoan(someAmounts, func(l impl.Loan) {
		for _, pay := range somePays(l) {
			left, paid := impl.LeftAfter(l, pay), impl.PaidOf(l, pay)
			wantLeft, wantPaid := paidBackByHand(l, pay)
			if !slices.Equal(left, wantLeft) || !slices.Equal(paid, wantPaid) {
				t.Fatalf("of %v by %d: %v and %v, not %v and %v", l, pay, left, paid, wantLeft, wantPaid)
			}
			before := l.Amount
			for i, now := range left {
				// InterestOf is that of amounts of loans; more may be left of one.
				if before <= 1000 && now != before+impl.InterestOf(before, l.Part, l.Base)-paid[i] {
					t.Fatalf("of %v by %d: %v and %v", l, pay, left, paid)
				}
				if paid[i] > pay || paid[i] < pay && now != 0 {
					t.Fatalf("PaidOf(%v, %d) = %v, and %v is left", l, pay, paid, left)
				}
				before = now
			}
		}
	})
}

func TestP27LeastPay(t *testing.T) {
	for _, c := range []struct {
		l    impl.Loan
		want int
	}{
		{impl.Loan{Amount: 100, Part: 1, Base: 10, Times: 2}, 58},
		{impl.Loan{Amount: 100, Part: 1, Base: 10, Times: 1}, 110},
		{impl.Loan{Amount: 100, Part: 0, Base: 1, Times: 3}, 34},
		{impl.Loan{Amount: 100, Part: 0, Base: 10, Times: 4}, 25},
		{impl.Loan{Amount: 1, Part: 0, Base: 1, Times: 8}, 1},
		{impl.Loan{Amount: 1, Part: 1, Base: 2, Times: 8}, 2},
		{impl.Loan{Amount: 1, Part: 1, Base: 3, Times: 8}, 1},
		{impl.Loan{Amount: 0, Part: 0, Base: 1, Times: 1}, 0},
		{impl.Loan{Amount: 0, Part: 10, Base: 10, Times: 8}, 0},
		{impl.Loan{Amount: 3, Part: 1, Base: 1, Times: 2}, 4},
		{impl.Loan{Amount: 1000, Part: 1, Base: 1, Times: 1}, 2000},
		{impl.Loan{Amount: 999, Part: 10, Base: 10, Times: 1}, 1998},
		{impl.Loan{Amount: 1000, Part: 1, Base: 1, Times: 8}, 1004},
		{impl.Loan{Amount: 1000, Part: 0, Base: 1, Times: 1}, 1000},
		{impl.Loan{Amount: 1000, Part: 0, Base: 1, Times: 8}, 125},
	} {
		if got := impl.LeastPay(c.l); got != c.want {
			t.Errorf("LeastPay(%v) = %d, not %d", c.l, got, c.want)
		}
	}
	for _, l := range wrongLoans {
		if got := impl.LeastPay(l); got != -1 {
			t.Errorf("LeastPay(%v) = %d", l, got)
		}
	}
}

// TestP27NoLessPayPaysBack tries all pays, the least first.
func TestP27NoLessPayPaysBack(t *testing.T) {
	eachLoan([]int{0, 1, 2, 3, 7, 10, 51, 105, 1000}, func(l impl.Loan) {
		want := 0
		for left, _ := paidBackByHand(l, want); lastOf(left) > 0; left, _ = paidBackByHand(l, want) {
			want++
		}
		if got := impl.LeastPay(l); got != want {
			t.Fatalf("LeastPay(%v) = %d, not %d", l, got, want)
		}
	})
}

func TestP27TheLeastPayPaysBack(t *testing.T) {
	eachLoan(someAmounts, func(l impl.Loan) {
		least := impl.LeastPay(l)
		if left := impl.LeftAfter(l, least); len(left) != l.Times || lastOf(left) != 0 {
			t.Fatalf("LeftAfter(%v, %d) = %v", l, least, left)
		}
		if least == 0 {
			if l.Amount != 0 {
				t.Fatalf("LeastPay(%v) = 0", l)
			}
			return
		}
		if left := impl.LeftAfter(l, least-1); len(left) != l.Times || lastOf(left) == 0 {
			t.Fatalf("LeftAfter(%v, %d) = %v, though the least pay is one more", l, least-1, left)
		}
	})
}

func TestP28AllIsPaid(t *testing.T) {
	eachLoan(someAmounts, func(l impl.Loan) {
		least := impl.LeastPay(l)
		for _, pay := range append(somePays(l), (least+2000)/2) {
			if pay < least {
				continue
			}
			paid := impl.PaidOf(l, pay)
			if len(paid) != l.Times || total(paid) < l.Amount || l.Part == 0 && total(paid) != l.Amount {
				t.Fatalf("PaidOf(%v, %d) = %v", l, pay, paid)
			}
		}
	})
}
