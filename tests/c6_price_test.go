package tests

import (
	"math"
	"math/bits"
	"slices"
	"testing"

	"loop.example/sumsthatadd/impl"
)

// somePrices are prices, the least and the greatest one among them.
var somePrices = []int{0, 1, 2, 3, 5, 7, 49, 50, 51, 99, 100, 101, 149, 150, 151, 250, 999, 4321, 33333, 99999, 100000}

// wrongAmounts are numbers that are no amounts.
var wrongAmounts = []int{-1, 100001, math.MinInt, math.MaxInt}

// eachOffs calls f with many discounts. It is one list that changes.
func eachOffs(f func(offs []int)) {
	f(nil)
	for off := range 101 {
		f([]int{off})
	}
	some := []int{0, 1, 10, 33, 49, 50, 51, 75, 99, 100}
	for n := 2; n <= 4; n++ {
		eachList(n, len(some)-1, func(list []int) {
			// Of four discounts there are more than are needed.
			if n == 4 && total(list)%7 != 0 {
				return
			}
			var offs []int
			for _, at := range list {
				offs = append(offs, some[at])
			}
			f(offs)
		})
	}
}

// priceByHand returns what PriceAfter is to return, rounding by what is left of the hundred.
func priceByHand(price int, offs []int) (int, int) {
	exact := price
	for _, off := range offs {
		exact *= 100 - off
		left := price * (100 - off)
		price = left / 100
		if left%100 >= 50 {
			price++
		}
	}
	return price, exact
}

// eachVouchers calls f with many lists of vouchers. It may be one list that changes.
func eachVouchers(f func(list []int)) {
	f(nil)
	for n := 1; n <= 5; n++ {
		eachList(n, 4, func(list []int) {
			var vouchers []int
			for _, number := range list {
				vouchers = append(vouchers, number+1)
			}
			f(vouchers)
		})
	}
	for seed := range 200 {
		next := mixed(seed)
		for _, most := range []int{6, 30, 200} {
			var list []int
			for range 5 + seed%4 {
				list = append(list, 1+next(most))
			}
			f(list)
		}
	}
	f(repeated(200, 8))
	f(repeated(1, 8))
	f([]int{1, 2, 4, 8, 16, 32, 64, 128})
}

// vouchersOf returns the vouchers of a set.
func vouchersOf(list []int, set int) []int {
	var out []int
	for i, voucher := range list {
		if set&(1<<i) != 0 {
			out = append(out, voucher)
		}
	}
	return out
}

// vouchersByHand returns for each price up to the sum of all vouchers what UseVouchers is to return:
// the best set for each sum, and of prices between two sums that of the lesser one.
func vouchersByHand(list []int) []int {
	best := repeated(-1, total(list)+1)
	for set := 1<<len(list) - 1; set >= 0; set-- {
		sum := total(vouchersOf(list, set))
		if best[sum] < 0 || bits.OnesCount(uint(set)) <= bits.OnesCount(uint(best[sum])) {
			best[sum] = set
		}
	}
	for price := range best {
		if best[price] < 0 {
			best[price] = best[price-1]
		}
	}
	return best
}

// eachSpent calls f with many lists of what is spent in months.
func eachSpent(f func(spent []int)) {
	f(nil)
	for n := 1; n <= 4; n++ {
		eachList(n, 4, func(list []int) { f(slices.Clone(list)) })
	}
	for seed := range 100 {
		next := mixed(seed)
		for _, most := range []int{9, 300, 100000} {
			var spent []int
			for range 1 + next(12) {
				spent = append(spent, next(most+1))
			}
			f(spent)
		}
	}
	f(repeated(0, 12))
	f(repeated(100000, 12))
}

// eachBudget calls f with grants, caps, and what is spent.
func eachBudget(f func(grant int, most int, spent []int)) {
	eachSpent(func(spent []int) {
		for _, grant := range []int{0, 1, 3, 100, 100000} {
			for _, most := range []int{0, 1, 4, 150, 100000} {
				f(grant, most, spent)
			}
		}
	})
}

func TestP45PriceAfter(t *testing.T) {
	for _, c := range []struct {
		price        int
		offs         []int
		now, exactly int
	}{
		{100, []int{10, 20}, 72, 720000},
		{5, []int{10}, 5, 450},
		{7, []int{50, 50}, 2, 17500},
		{7, []int{50}, 4, 350},
		{99, []int{50}, 50, 4950},
		{149, []int{1}, 148, 14751},
		// No discounts, and discounts of nothing.
		{9, nil, 9, 9},
		{0, nil, 0, 0},
		{100000, []int{}, 100000, 100000},
		{9, []int{0}, 9, 900},
		{9, []int{0, 0, 0, 0}, 9, 900000000},
		{100000, []int{0, 0, 0, 0}, 100000, 10000000000000},
		// Discounts of a hundred.
		{9, []int{100}, 0, 0},
		{100000, []int{100}, 0, 0},
		{100000, []int{0, 100}, 0, 0},
		{100000, []int{100, 0, 0, 0}, 0, 0},
		{100000, []int{0, 0, 0, 100}, 0, 0},
		{100000, []int{100, 100, 100, 100}, 0, 0},
		{100000, []int{99, 99}, 10, 100000},
		{0, []int{50, 100}, 0, 0},
		// Rounded each time, not in the end alone.
		{1, []int{50, 50, 50, 50}, 1, 6250000},
		{3, []int{50, 10}, 2, 13500},
		{3, []int{10, 50}, 2, 13500},
		{10, []int{35, 50}, 4, 32500},
		{10, []int{50, 35}, 3, 32500},
	} {
		if now, exactly := impl.PriceAfter(c.price, c.offs); now != c.now || exactly != c.exactly {
			t.Errorf("PriceAfter(%d, %v) = %d, %d, not %d, %d", c.price, c.offs, now, exactly, c.now, c.exactly)
		}
	}
}

func TestP45PriceAfterOfOtherArguments(t *testing.T) {
	look := func(price int, offs []int) {
		if now, exactly := impl.PriceAfter(price, offs); now != -1 || exactly != -1 {
			t.Errorf("PriceAfter(%d, %v) = %d, %d", price, offs, now, exactly)
		}
	}
	for _, price := range wrongAmounts {
		look(price, nil)
		look(price, []int{0})
		look(price, []int{100})
		look(price, []int{101})
	}
	for _, off := range []int{-1, 101, math.MinInt, math.MaxInt} {
		for n := 1; n <= 4; n++ {
			for at := range n {
				offs := repeated(100, n)
				offs[at] = off
				look(9, offs)
				look(0, offs)
			}
		}
	}
	look(9, repeated(0, 5))
	look(0, repeated(100, 5))
	look(9, repeated(10, 50))
}

func TestP45DiscountsMayBeTakenInAnyOrder(t *testing.T) {
	eachOffs(func(offs []int) {
		for _, price := range somePrices {
			now, exactly := impl.PriceAfter(price, offs)
			if wantNow, wantExactly := priceByHand(price, offs); now != wantNow || exactly != wantExactly {
				t.Fatalf("PriceAfter(%d, %v) = %d, %d, not %d, %d", price, offs, now, exactly, wantNow, wantExactly)
			}
			if _, other := impl.PriceAfter(price, reversed(offs)); other != exactly {
				t.Fatalf("PriceAfter(%d, %v) = %d exactly, and the other way round %d", price, offs, exactly, other)
			}
			whole := power(100, len(offs))
			if away := 2 * (now*whole - exactly); away > len(offs)*whole || -away > len(offs)*whole {
				t.Fatalf("PriceAfter(%d, %v) = %d, %d", price, offs, now, exactly)
			}
		}
	})
}

func TestP46UseVouchers(t *testing.T) {
	for _, c := range []struct {
		list     []int
		price    int
		set, sum int
	}{
		{[]int{5, 10, 20}, 27, 5, 25},
		{[]int{5, 10, 20}, 35, 7, 35},
		{[]int{5, 10, 20}, 100000, 7, 35},
		{[]int{5, 10, 20}, 19, 3, 15},
		// None, or none that can be used.
		{nil, 5, 0, 0},
		{[]int{}, 0, 0, 0},
		{nil, 100000, 0, 0},
		{[]int{50}, 20, 0, 0},
		{[]int{50}, 49, 0, 0},
		{[]int{50}, 50, 1, 50},
		{[]int{1, 2, 3}, 0, 0, 0},
		// Of the same sum the fewest vouchers.
		{[]int{5, 5, 10}, 10, 4, 10},
		{[]int{10, 5, 5}, 10, 1, 10},
		{[]int{1, 2, 3, 6}, 6, 8, 6},
		{[]int{1, 2, 3, 4}, 7, 12, 7},
		{[]int{3, 3, 3, 9}, 11, 8, 9},
		// Of as few the least number.
		{[]int{5, 5}, 5, 1, 5},
		{[]int{5, 5, 5}, 12, 3, 10},
		{[]int{1, 4, 2, 3}, 5, 3, 5},
		{[]int{2, 1, 4, 3}, 5, 6, 5},
		{[]int{4, 3, 2, 1}, 5, 6, 5},
		// As many as may be, and as great.
		{repeated(200, 8), 100000, 255, 1600},
		{repeated(200, 8), 1600, 255, 1600},
		{repeated(200, 8), 1599, 127, 1400},
		{repeated(1, 8), 1, 1, 1},
		{[]int{1, 2, 4, 8, 16, 32, 64, 128}, 170, 170, 170},
		{[]int{200}, 199, 0, 0},
		{[]int{200}, 200, 1, 200},
		// The greatest one first would not be the most.
		{[]int{6, 5, 5}, 10, 6, 10},
	} {
		if set, sum := impl.UseVouchers(c.list, c.price); set != c.set || sum != c.sum {
			t.Errorf("UseVouchers(%v, %d) = %d, %d, not %d, %d", c.list, c.price, set, sum, c.set, c.sum)
		}
	}
}

func TestP46UseVouchersOfOtherArguments(t *testing.T) {
	look := func(list []int, price int) {
		if set, sum := impl.UseVouchers(list, price); set != -1 || sum != -1 {
			t.Errorf("UseVouchers(%v, %d) = %d, %d", list, price, set, sum)
		}
	}
	for _, price := range wrongAmounts {
		look(nil, price)
		look([]int{1}, price)
		look(repeated(200, 8), price)
	}
	for _, voucher := range []int{0, -1, 201, math.MinInt, math.MaxInt} {
		for n := 1; n <= 8; n++ {
			for _, at := range []int{0, n / 2, n - 1} {
				list := repeated(3, n)
				list[at] = voucher
				look(list, 5)
				look(list, 0)
			}
		}
	}
	look(repeated(1, 9), 5)
	look(repeated(200, 9), 0)
	look(repeated(1, 70), 5)
}

func TestP46VouchersPayTheMost(t *testing.T) {
	eachVouchers(func(list []int) {
		want := vouchersByHand(list)
		for price, wantSet := range want {
			set, sum := impl.UseVouchers(list, price)
			if set != wantSet || sum != total(vouchersOf(list, set)) || sum > price {
				t.Fatalf("UseVouchers(%v, %d) = %d, %d, not %d", list, price, set, sum, wantSet)
			}
			for i, voucher := range list {
				if set&(1<<i) == 0 && sum+voucher <= price {
					t.Fatalf("UseVouchers(%v, %d) = %d, %d, and %d more is not too much", list, price, set, sum, voucher)
				}
			}
		}
		for _, price := range []int{total(list) + 1, 100000} {
			if set, sum := impl.UseVouchers(list, price); set != 1<<len(list)-1 || sum != total(list) {
				t.Fatalf("UseVouchers(%v, %d) = %d, %d", list, price, set, sum)
			}
		}
	})
}

func TestP47CarryOf(t *testing.T) {
	for _, c := range []struct {
		grant, most int
		spent, want []int
	}{
		{100, 50, []int{80, 0, 200, 10}, []int{20, 50, -50, 40}},
		{1, 1, nil, nil},
		{100, 50, []int{}, nil},
		{100, 1000, []int{0, 0, 0}, []int{100, 200, 300}},
		{100, 200, []int{0, 0, 0, 30}, []int{100, 200, 200, 200}},
		// Below 0, where nothing is taken away.
		{0, 0, []int{5, 5}, []int{-5, -10}},
		{10, 0, []int{15, 5, 5, 5}, []int{-5, 0, 0, 0}},
		{10, 3, []int{30, 0, 0, 0}, []int{-20, -10, 0, 3}},
		// What is spent is taken before the cap is looked at.
		{100, 50, []int{0, 100, 60}, []int{50, 50, 50}},
		{100, 50, []int{0, 101}, []int{50, 49}},
		{0, 50, []int{0}, []int{0}},
		{0, 0, []int{0}, []int{0}},
		{5, 0, []int{0, 0}, []int{0, 0}},
		{100000, 100000, []int{0, 0}, []int{100000, 100000}},
		{0, 100000, repeated(100000, 12), []int{-100000, -200000, -300000, -400000, -500000, -600000, -700000, -800000, -900000, -1000000, -1100000, -1200000}},
		{1, 12, repeated(0, 12), []int{1, 2, 3, 4, 5, 6, 7, 8, 9, 10, 11, 12}},
	} {
		if got := impl.CarryOf(c.grant, c.most, c.spent); !slices.Equal(got, c.want) {
			t.Errorf("CarryOf(%d, %d, %v) = %v, not %v", c.grant, c.most, c.spent, got, c.want)
		}
	}
}

func TestP47CarryOfOtherArguments(t *testing.T) {
	look := func(grant int, most int, spent []int) {
		if got := impl.CarryOf(grant, most, spent); got != nil {
			t.Errorf("CarryOf(%d, %d, %v) = %v", grant, most, spent, got)
		}
	}
	for _, wrong := range wrongAmounts {
		for _, spent := range [][]int{nil, {0}, {1, 2, 3}} {
			look(wrong, 50, spent)
			look(50, wrong, spent)
			look(wrong, wrong, spent)
		}
		for n := 1; n <= 12; n++ {
			for _, at := range []int{0, n / 2, n - 1} {
				spent := repeated(10, n)
				spent[at] = wrong
				look(50, 50, spent)
			}
		}
	}
	look(50, 50, repeated(0, 13))
	look(0, 0, repeated(0, 13))
	look(50, 50, repeated(10, 100))
}

func TestP47WhatIsCarriedIsAtMostTheCap(t *testing.T) {
	eachBudget(func(grant int, most int, spent []int) {
		got := impl.CarryOf(grant, most, spent)
		if len(got) != len(spent) {
			t.Fatalf("CarryOf(%d, %d, %v) = %v", grant, most, spent, got)
		}
		ahead := 0
		for month, left := range got {
			want := ahead + grant - spent[month]
			if want > most {
				want = most
			}
			if left != want || left > most {
				t.Fatalf("CarryOf(%d, %d, %v) = %v", grant, most, spent, got)
			}
			ahead = left
		}
		if len(spent) == 12 {
			return
		}
		further := impl.CarryOf(grant, most, append(slices.Clone(spent), grant))
		if !slices.Equal(further, append(got, ahead)) {
			t.Fatalf("CarryOf(%d, %d, %v) = %v, and with as much spent as granted %v", grant, most, spent, got, further)
		}
	})
}

func TestC6PriceArgumentsAndResults(t *testing.T) {
	offs, list, spent := []int{10, 20, 77}[:2], []int{5, 10, 20, 77}[:3], []int{80, 0, 77}[:2]
	for range 2 {
		now, exactly := impl.PriceAfter(100, offs)
		set, sum := impl.UseVouchers(list, 27)
		if now != 72 || exactly != 720000 || set != 5 || sum != 25 {
			t.Errorf("called again: %d, %d, %d, %d", now, exactly, set, sum)
		}
		carried := append(impl.CarryOf(100, 50, spent), 9)
		carried[0]++
		if !slices.Equal(carried, []int{21, 50, 9}) {
			t.Errorf("called again: %v", carried)
		}
	}
	if !slices.Equal(offs[:3], []int{10, 20, 77}) || !slices.Equal(list[:4], []int{5, 10, 20, 77}) || !slices.Equal(spent[:3], []int{80, 0, 77}) {
		t.Errorf("the arguments are %v, %v and %v", offs[:3], list[:4], spent[:3])
	}
}
