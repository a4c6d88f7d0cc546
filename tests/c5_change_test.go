package tests

import (
	"math"
	"runtime"
	"slices"
	"testing"
	"time"

	"loop.example/sumsthatadd/impl"
)

// wrongPurses are numbers that are no coins of a purse with three kinds of coins.
var wrongPurses = [][]int{
	nil,
	{},
	{1},
	{1, 1},
	{1, 1, 1, 1},
	{0, 0, 0, 0},
	{-1, 1, 1},
	{1, -1, 1},
	{1, 1, -1},
	{7, 1, 1},
	{1, 7, 1},
	{1, 1, 7},
	{math.MinInt, 1, 1},
	{1, 1, math.MaxInt},
}

// divisorByHand returns the greatest number that divides all coins.
func divisorByHand(coins []int) int {
	for divisor := coins[0]; ; divisor-- {
		if !slices.ContainsFunc(coins, func(coin int) bool { return coin%divisor != 0 }) {
			return divisor
		}
	}
}

// unpaidByHand returns what LastUnpaid is to return of coins without a common divisor,
// looking at amounts far above the product of any two coins.
func unpaidByHand(coins []int) (int, int) {
	last, count := 0, 0
	for amount, number := range fewestNumbersByHand(coins, 2000) {
		if number < 0 {
			last = amount
			count++
		}
	}
	return last, count
}

// handsByHand returns the least number of coins that change hands for each amount, -1 for
// those that cannot be paid: the differences that one coin makes, given or given back,
// then those that two make, and so on.
func handsByHand(coins []int) []int {
	const most = 1100
	numbers := repeated(-1, 2*most+1)
	numbers[most] = 0
	last := []int{most}
	for number := 1; len(last) > 0; number++ {
		var next []int
		for _, from := range last {
			for _, coin := range coins {
				for _, to := range []int{from + coin, from - coin} {
					if 0 <= to && to < len(numbers) && numbers[to] < 0 {
						numbers[to] = number
						next = append(next, to)
					}
				}
			}
		}
		last = next
	}
	return numbers[most : most+121]
}

// eachPurse calls f with coins and with purses: without coins, with one, with all there may be, and others.
func eachPurse(f func(coins []int, purse []int)) {
	eachCoins(func(coins []int) {
		n := len(coins)
		f(coins, repeated(0, n))
		f(coins, repeated(1, n))
		f(coins, repeated(6, n))
		for i := range n {
			purse := repeated(0, n)
			purse[i] = 1
			f(coins, slices.Clone(purse))
			purse[i] = 6
			f(coins, purse)
		}
		next := mixed(total(coins))
		for range 3 {
			var purse []int
			for range n {
				purse = append(purse, next(7))
			}
			f(coins, purse)
		}
	})
}

// purseByHand returns the least number of coins of a purse that pay each amount, -1 for those that none pay.
func purseByHand(coins []int, purse []int) []int {
	numbers := repeated(-1, 121)
	var take func(at int, amount int, number int)
	take = func(at int, amount int, number int) {
		if amount > 120 {
			return
		}
		if at == len(coins) {
			if numbers[amount] < 0 || number < numbers[amount] {
				numbers[amount] = number
			}
			return
		}
		for n := 0; n <= purse[at]; n++ {
			take(at+1, amount+n*coins[at], number+n)
		}
	}
	take(0, 0, 0)
	return numbers
}

func TestP37LastUnpaid(t *testing.T) {
	for _, c := range []struct {
		coins       []int
		last, count int
	}{
		{[]int{3, 5}, 7, 4},
		{[]int{2, 3}, 1, 1},
		{[]int{2, 29}, 27, 14},
		{[]int{29, 30}, 811, 406},
		{[]int{28, 29}, 755, 378},
		{[]int{6, 9, 20}, 43, 22},
		{[]int{6, 10, 15}, 29, 15},
		{[]int{28, 29, 30}, 391, 196},
		{[]int{26, 27, 28, 29, 30}, 181, 91},
		// All can be paid.
		{[]int{1}, 0, 0},
		{[]int{1, 2}, 0, 0},
		{[]int{1, 7}, 0, 0},
		{[]int{1, 30}, 0, 0},
		{[]int{1, 2, 3, 4, 5}, 0, 0},
	} {
		if last, count, ok := impl.LastUnpaid(c.coins); last != c.last || count != c.count || !ok {
			t.Errorf("LastUnpaid(%v) = %d, %d, %v, not %d, %d", c.coins, last, count, ok, c.last, c.count)
		}
	}
	for _, coins := range append([][]int{
		{2}, {5}, {30}, {4, 6}, {2, 4}, {15, 30}, {6, 10, 14}, {12, 20, 30}, {10, 20, 30}, {2, 4, 6, 8, 10}, {6, 12, 18, 24, 30}, {22, 24, 26, 28, 30},
	}, wrongCoins...) {
		if last, count, ok := impl.LastUnpaid(coins); last != 0 || count != 0 || ok {
			t.Errorf("LastUnpaid(%v) = %d, %d, %v", coins, last, count, ok)
		}
	}
}

// TestP37TwoCoinsLeaveKnownAmountsUnpaid leaves out the coin 1, by which all can be paid: the product less both is then -1.
func TestP37TwoCoinsLeaveKnownAmountsUnpaid(t *testing.T) {
	eachSet(2, 2, 30, func(coins []int) {
		a, b := coins[0], coins[1]
		last, count, ok := impl.LastUnpaid(coins)
		if divisorByHand(coins) > 1 {
			if last != 0 || count != 0 || ok {
				t.Errorf("LastUnpaid(%v) = %d, %d, %v", coins, last, count, ok)
			}
			return
		}
		if last != a*b-a-b || 2*count != (a-1)*(b-1) || !ok {
			t.Errorf("LastUnpaid(%v) = %d, %d, %v", coins, last, count, ok)
		}
	})
}

func TestP37NoGreaterAmountIsUnpaid(t *testing.T) {
	look := func(coins []int) {
		last, count, ok := impl.LastUnpaid(coins)
		if ok != (divisorByHand(coins) == 1) {
			t.Fatalf("LastUnpaid(%v) = %d, %d, %v", coins, last, count, ok)
		}
		if !ok {
			return
		}
		if wantLast, wantCount := unpaidByHand(coins); last != wantLast || count != wantCount {
			t.Fatalf("LastUnpaid(%v) = %d, %d, not %d, %d", coins, last, count, wantLast, wantCount)
		}
		for amount := last; amount <= 120; amount++ {
			if ways := impl.WaysOf(coins, amount); (ways > 0) != (amount > last || last == 0) {
				t.Fatalf("LastUnpaid(%v) = %d, and of %d there are %d ways", coins, last, amount, ways)
			}
		}
	}
	eachCoins(look)
	eachSet(3, 20, 30, look)
	eachSet(5, 22, 30, look)
}

func TestP38FewestHands(t *testing.T) {
	for _, c := range []struct {
		coins        []int
		amount, want int
	}{
		{[]int{1, 10}, 9, 2},
		{[]int{1, 10}, 5, 5},
		{[]int{1, 10}, 6, 5},
		{[]int{1, 10}, 99, 11},
		{[]int{3, 5}, 1, 3},
		{[]int{3, 5}, 2, 2},
		{[]int{3, 5}, 4, 4},
		{[]int{3, 5}, 7, 3},
		{[]int{3, 5}, 120, 24},
		// Nothing.
		{[]int{1}, 0, 0},
		{[]int{30}, 0, 0},
		{[]int{26, 27, 28, 29, 30}, 0, 0},
		// One coin alone.
		{[]int{1}, 1, 1},
		{[]int{1}, 120, 120},
		{[]int{7}, 119, 17},
		{[]int{30}, 120, 4},
		// More than the amount is given, and more than any coin is given back.
		{[]int{29, 30}, 1, 2},
		{[]int{29, 30}, 14, 28},
		{[]int{29, 30}, 15, 29},
		{[]int{29, 30}, 120, 4},
		{[]int{29, 30}, 119, 4},
		{[]int{6, 9, 20}, 43, 4},
		{[]int{6, 10, 15}, 1, 3},
		// Coins with a common divisor.
		{[]int{4, 6}, 2, 2},
		{[]int{28, 30}, 14, 14},
		{[]int{28, 30}, 2, 2},
		{[]int{12, 20, 30}, 2, 3},
	} {
		if got, ok := impl.FewestHands(c.coins, c.amount); got != c.want || !ok {
			t.Errorf("FewestHands(%v, %d) = %d, %v, not %d", c.coins, c.amount, got, ok, c.want)
		}
	}
}

func TestP38FewestHandsOfOtherArguments(t *testing.T) {
	look := func(coins []int, amount int) {
		if got, ok := impl.FewestHands(coins, amount); got != 0 || ok {
			t.Errorf("FewestHands(%v, %d) = %d, %v", coins, amount, got, ok)
		}
	}
	eachWrongPaying(look)
	for _, c := range []struct {
		coins  []int
		amount int
	}{
		{[]int{2}, 1}, {[]int{2}, 119}, {[]int{30}, 29}, {[]int{30}, 31}, {[]int{7}, 120}, {[]int{2, 4}, 3},
		{[]int{15, 30}, 1}, {[]int{15, 30}, 119}, {[]int{12, 20, 30}, 1}, {[]int{6, 12, 18, 24, 30}, 119},
	} {
		look(c.coins, c.amount)
	}
}

func TestP38ChangeMakesItNoMore(t *testing.T) {
	eachCoins(func(coins []int) {
		divisor, hands := divisorByHand(coins), handsByHand(coins)
		for amount := range 121 {
			got, ok := impl.FewestHands(coins, amount)
			if ok != (amount%divisor == 0) || ok && got != hands[amount] || !ok && got != 0 {
				t.Fatalf("FewestHands(%v, %d) = %d, %v, not %d", coins, amount, got, ok, hands[amount])
			}
			if n, _, payOk := impl.FewestCoins(coins, amount); payOk && (!ok || got > n) {
				t.Fatalf("FewestHands(%v, %d) = %d, %v, and FewestCoins %d", coins, amount, got, ok, n)
			}
		}
	})
}

func TestP39FromPurse(t *testing.T) {
	for _, c := range []struct {
		coins, purse []int
		amount, want int
	}{
		{[]int{1, 3, 4}, []int{3, 1, 1}, 6, 3},
		{[]int{1, 3, 4}, []int{3, 2, 1}, 6, 2},
		{[]int{1, 3, 4}, []int{3, 1, 0}, 6, 4},
		{[]int{1, 3, 4}, []int{6, 0, 0}, 6, 6},
		{[]int{1, 3, 4}, []int{6, 6, 6}, 48, 18},
		{[]int{1, 3, 4}, []int{1, 1, 1}, 8, 3},
		// Nothing, by purses with and without coins.
		{[]int{1, 3, 4}, []int{3, 1, 1}, 0, 0},
		{[]int{1, 3, 4}, []int{0, 0, 0}, 0, 0},
		{[]int{30}, []int{0}, 0, 0},
		{[]int{30}, []int{6}, 0, 0},
		{[]int{1, 2, 3, 4, 5}, []int{0, 0, 0, 0, 0}, 0, 0},
		// One coin alone.
		{[]int{1}, []int{6}, 6, 6},
		{[]int{1}, []int{1}, 1, 1},
		{[]int{20}, []int{6}, 120, 6},
		{[]int{30}, []int{4}, 120, 4},
		// The greatest coins would not do, or would be more.
		{[]int{3, 5}, []int{3, 1}, 9, 3},
		{[]int{1, 10, 25}, []int{5, 3, 1}, 30, 3},
		{[]int{1, 10, 25}, []int{5, 2, 1}, 30, 6},
		{[]int{1, 2, 3, 4, 5}, []int{6, 6, 6, 6, 6}, 90, 30},
		{[]int{26, 27, 28, 29, 30}, []int{1, 1, 1, 1, 1}, 114, 4},
	} {
		if got, ok := impl.FromPurse(c.coins, c.purse, c.amount); got != c.want || !ok {
			t.Errorf("FromPurse(%v, %v, %d) = %d, %v, not %d", c.coins, c.purse, c.amount, got, ok, c.want)
		}
	}
}

func TestP39FromPurseOfOtherArguments(t *testing.T) {
	look := func(coins []int, purse []int, amount int) {
		if got, ok := impl.FromPurse(coins, purse, amount); got != 0 || ok {
			t.Errorf("FromPurse(%v, %v, %d) = %d, %v", coins, purse, amount, got, ok)
		}
	}
	eachWrongPaying(func(coins []int, amount int) {
		look(coins, repeated(1, len(coins)), amount)
		look(coins, repeated(0, len(coins)), amount)
	})
	for _, purse := range wrongPurses {
		for _, amount := range []int{0, 1, 2, 120, 121} {
			look([]int{1, 3, 4}, purse, amount)
		}
	}
	look([]int{1}, nil, 0)
	look([]int{1}, []int{7}, 1)
	look([]int{1}, []int{7}, 0)
	for _, c := range []struct {
		coins, purse []int
		amount       int
	}{
		// Purses without coins.
		{[]int{1}, []int{0}, 1}, {[]int{1}, []int{0}, 120}, {[]int{1, 3, 4}, []int{0, 0, 0}, 1}, {[]int{1, 2, 3, 4, 5}, []int{0, 0, 0, 0, 0}, 3},
		// Too few coins, or others.
		{[]int{1}, []int{6}, 7}, {[]int{1}, []int{6}, 120}, {[]int{1, 3, 4}, []int{0, 1, 1}, 6}, {[]int{1, 3, 4}, []int{6, 6, 6}, 49},
		{[]int{1, 3, 4}, []int{0, 1, 1}, 8}, {[]int{2}, []int{6}, 3}, {[]int{2, 4}, []int{6, 6}, 35}, {[]int{3, 5}, []int{6, 6}, 7},
	} {
		look(c.coins, c.purse, c.amount)
	}
}

func TestP39PursesHaveAtLeastAsMany(t *testing.T) {
	eachPurse(func(coins []int, purse []int) {
		want := purseByHand(coins, purse)
		for amount := range 121 {
			got, ok := impl.FromPurse(coins, purse, amount)
			if ok != (want[amount] >= 0) || got != max(0, want[amount]) {
				t.Fatalf("FromPurse(%v, %v, %d) = %d, %v, not %d", coins, purse, amount, got, ok, want[amount])
			}
			if !ok {
				continue
			}
			if n, _, payOk := impl.FewestCoins(coins, amount); !payOk || got < n || got > total(purse) {
				t.Fatalf("FromPurse(%v, %v, %d) = %d, and FewestCoins %d, %v", coins, purse, amount, got, n, payOk)
			}
		}
	})
}

func TestC5ArgumentsAndResults(t *testing.T) {
	coins, purse := []int{1, 3, 4, 9, 9}[:3], []int{3, 1, 1, 9, 9}[:3]
	for range 2 {
		_, counts, _ := impl.FewestCoins(coins, 6)
		_, others, _ := impl.FewestCoins(coins, 0)
		greedy := append(impl.GreedyCoins(coins, 6), 9)
		counts, others = append(counts, 9), append(others, 9)
		counts[0]++
		others[0]++
		greedy[0]++
		if !slices.Equal(counts, []int{1, 2, 0, 9}) || !slices.Equal(others, []int{1, 0, 0, 9}) || !slices.Equal(greedy, []int{3, 0, 1, 9}) {
			t.Errorf("called again: %v, %v, %v", counts, others, greedy)
		}
		last, unpaid, _ := impl.LastUnpaid(coins)
		hands, _ := impl.FewestHands(coins, 6)
		ofPurse, _ := impl.FromPurse(coins, purse, 6)
		if ways := impl.WaysOf(coins, 6); ways != 4 || impl.IsGreedy(coins) || last != 0 || unpaid != 0 || hands != 2 || ofPurse != 3 {
			t.Errorf("called again: %d, %d, %d, %d, %d", ways, last, unpaid, hands, ofPurse)
		}
	}
	if !slices.Equal(coins[:5], []int{1, 3, 4, 9, 9}) || !slices.Equal(purse[:5], []int{3, 1, 1, 9, 9}) {
		t.Errorf("the arguments are %v and %v", coins[:5], purse[:5])
	}
}

func TestC5NothingGoesOnBehindACall(t *testing.T) {
	before := runtime.NumGoroutine()
	for amount := range 121 {
		impl.WaysOf([]int{1, 3, 4}, amount)
		impl.WaysOf([]int{30}, amount)
		impl.WaysOf(nil, amount)
	}
	// One that has sent all may take a while to end.
	for range 1000 {
		if runtime.NumGoroutine() <= before {
			return
		}
		time.Sleep(time.Millisecond)
	}
	t.Errorf("there are %d goroutines, and %d before", runtime.NumGoroutine(), before)
}
