package tests

import (
	"math"
	"slices"
	"testing"

	"loop.example/sumsthatadd/impl"
)

// someCoins are coins that eachCoins takes beside those it makes.
var someCoins = [][]int{
	{1, 5, 10, 25},
	{1, 2, 5, 10, 20},
	{1, 7, 10},
	{1, 10, 25},
	{1, 3, 4, 30},
	{1, 15, 25},
	{6, 9, 20},
	{6, 10, 15},
	{4, 6, 9},
	{12, 20, 30},
	{10, 20, 30},
	{2, 4, 6, 8, 10},
	{6, 12, 18, 24, 30},
	{28, 29, 30},
	{26, 27, 28, 29, 30},
	{1, 27, 28, 29, 30},
	{5, 9, 14, 23, 30},
}

// wrongCoins are numbers that are no values of coins.
var wrongCoins = [][]int{
	nil,
	{},
	{0},
	{-1},
	{31},
	{math.MinInt},
	{math.MaxInt},
	{0, 1},
	{-1, 1},
	{1, 31},
	{1, 0},
	{1, 1},
	{2, 2},
	{2, 1},
	{30, 29},
	{1, 3, 2},
	{1, 3, 3},
	{1, 2, 3, 3, 4},
	{1, 2, 3, 5, 4},
	{1, 2, 3, 4, 31},
	{1, 2, 3, 4, math.MaxInt},
	{math.MinInt, 1, 2},
	{1, 2, 3, 4, 5, 6},
	{25, 26, 27, 28, 29, 30},
}

// wrongPaid are numbers that are no amounts to be paid.
var wrongPaid = []int{-1, 121, math.MinInt, math.MaxInt}

// eachSet calls f with every ascending list of n numbers in low..high. It is one list that changes.
func eachSet(n int, low int, high int, f func(list []int)) {
	list := make([]int, n)
	var fill func(at int, low int)
	fill = func(at int, low int) {
		if at == n {
			f(list)
			return
		}
		for number := low; number <= high; number++ {
			list[at] = number
			fill(at+1, number+1)
		}
	}
	fill(0, low)
}

// eachCoins calls f with all sets of one and of two coins, all of small coins, and others.
func eachCoins(f func(coins []int)) {
	take := func(coins []int) { f(slices.Clone(coins)) }
	eachSet(1, 1, 30, take)
	eachSet(2, 1, 30, take)
	for n := 3; n <= 5; n++ {
		eachSet(n, 1, 8, take)
		for seed := range 50 {
			next := mixed(seed)
			coins := map[int]bool{}
			for len(coins) < n {
				coins[1+next(30)] = true
			}
			var list []int
			for coin := range coins {
				list = append(list, coin)
			}
			slices.Sort(list)
			take(list)
		}
	}
	for _, coins := range someCoins {
		take(coins)
	}
}

// eachSmallCoins calls f with all sets of coins up to a value.
func eachSmallCoins(most int, f func(coins []int)) {
	for n := 1; n <= 5; n++ {
		eachSet(n, 1, most, func(coins []int) { f(slices.Clone(coins)) })
	}
}

// eachWrongPaying calls f with coins and amounts of which one is not valid.
func eachWrongPaying(f func(coins []int, amount int)) {
	for _, coins := range wrongCoins {
		for _, amount := range append([]int{0, 1, 30, 120}, wrongPaid...) {
			f(coins, amount)
		}
	}
	for _, coins := range append([][]int{{1}, {2}, {30}, {1, 2}, {29, 30}}, someCoins...) {
		for _, amount := range wrongPaid {
			f(coins, amount)
		}
	}
}

// eachWay calls f with how many of each coin pay an amount, in all ways. It is one list that changes.
func eachWay(coins []int, amount int, f func(counts []int)) {
	counts := make([]int, len(coins))
	var pay func(at int, left int)
	pay = func(at int, left int) {
		if at == len(coins) {
			if left == 0 {
				f(counts)
			}
			return
		}
		for counts[at] = 0; counts[at]*coins[at] <= left; counts[at]++ {
			pay(at+1, left-counts[at]*coins[at])
		}
	}
	pay(0, amount)
}

// paidBy returns the amount that so many of each coin pay.
func paidBy(coins []int, counts []int) int {
	amount := 0
	for i, coin := range coins {
		amount += coin * counts[i]
	}
	return amount
}

// fewestWayByHand returns how many of each coin FewestCoins is to return, nil if the amount cannot be paid.
func fewestWayByHand(coins []int, amount int) []int {
	var best []int
	eachWay(coins, amount, func(counts []int) {
		if best == nil || total(counts) < total(best) || total(counts) == total(best) && slices.Compare(reversed(counts), reversed(best)) > 0 {
			best = slices.Clone(counts)
		}
	})
	return best
}

// greedyByHand returns what GreedyCoins is to return, for any amount: one coin after the other.
func greedyByHand(coins []int, amount int) []int {
	counts := make([]int, len(coins))
	for at := len(coins) - 1; amount > 0; {
		if coins[at] > amount {
			at--
			continue
		}
		counts[at]++
		amount -= coins[at]
	}
	return counts
}

// fewestNumbersByHand returns the least number of coins for each amount up to the top, -1 for those that cannot be paid:
// the amounts that are paid by one coin, then those by two, and so on.
func fewestNumbersByHand(coins []int, top int) []int {
	numbers := repeated(-1, top+1)
	numbers[0] = 0
	last := []int{0}
	for number := 1; len(last) > 0; number++ {
		var next []int
		for _, amount := range last {
			for _, coin := range coins {
				if amount+coin <= top && numbers[amount+coin] < 0 {
					numbers[amount+coin] = number
					next = append(next, amount+coin)
				}
			}
		}
		last = next
	}
	return numbers
}

func TestC5Limits(t *testing.T) {
	if impl.MaxCoin != 30 || impl.MaxCoins != 5 || impl.MaxPaid != 120 || impl.MaxPurse != 6 {
		t.Errorf("the limits are %d, %d, %d and %d", impl.MaxCoin, impl.MaxCoins, impl.MaxPaid, impl.MaxPurse)
	}
}

func TestP32ValidCoins(t *testing.T) {
	eachCoins(func(coins []int) {
		if !impl.ValidCoins(coins) {
			t.Fatalf("ValidCoins(%v) = false", coins)
		}
	})
	for _, coins := range wrongCoins {
		if impl.ValidCoins(coins) {
			t.Errorf("ValidCoins(%v) = true", coins)
		}
	}
	for n := range 8 {
		coins := []int{3, 5, 8, 13, 21, 29, 30, 31}[:n]
		if got, want := impl.ValidCoins(coins), 1 <= n && n <= 5; got != want {
			t.Errorf("ValidCoins(%v) = %v", coins, got)
		}
	}
	for a := -2; a <= 33; a++ {
		if got, want := impl.ValidCoins([]int{a}), 1 <= a && a <= 30; got != want {
			t.Errorf("ValidCoins({%d}) = %v", a, got)
		}
		for b := -2; b <= 33; b++ {
			if got, want := impl.ValidCoins([]int{a, b}), 1 <= a && a < b && b <= 30; got != want {
				t.Errorf("ValidCoins({%d, %d}) = %v", a, b, got)
			}
		}
	}
}

func TestP32CoinsCanBeLeftOut(t *testing.T) {
	eachCoins(func(coins []int) {
		if got := impl.ValidCoins(coins[:len(coins)-1]); got != (len(coins) > 1) {
			t.Fatalf("ValidCoins(%v) = %v, and %v are coins", coins[:len(coins)-1], got, coins)
		}
	})
}

func TestP33WaysOf(t *testing.T) {
	for _, c := range []struct {
		coins        []int
		amount, want int
	}{
		{[]int{1, 3, 4}, 6, 4},
		{[]int{1, 3, 4}, 0, 1},
		{[]int{1}, 0, 1},
		{[]int{30}, 0, 1},
		{[]int{26, 27, 28, 29, 30}, 0, 1},
		// One coin alone.
		{[]int{1}, 1, 1},
		{[]int{1}, 120, 1},
		{[]int{5}, 4, 0},
		{[]int{5}, 5, 1},
		{[]int{5}, 6, 0},
		{[]int{7}, 120, 0},
		{[]int{30}, 120, 1},
		{[]int{30}, 119, 0},
		// Amounts that cannot be paid.
		{[]int{2}, 3, 0},
		{[]int{2, 4}, 119, 0},
		{[]int{3, 5}, 7, 0},
		{[]int{6, 9, 20}, 43, 0},
		{[]int{6, 9, 20}, 44, 2},
		{[]int{26, 27, 28, 29, 30}, 25, 0},
		{[]int{26, 27, 28, 29, 30}, 31, 0},
		{[]int{26, 27, 28, 29, 30}, 120, 1},
		{[]int{1, 2}, 120, 61},
		{[]int{1, 10}, 120, 13},
		{[]int{1, 5, 10, 25}, 100, 242},
		{[]int{1, 2, 5, 10, 20}, 120, 7686},
		{[]int{1, 2, 3, 4, 5}, 120, 91606},
	} {
		if got := impl.WaysOf(c.coins, c.amount); got != c.want {
			t.Errorf("WaysOf(%v, %d) = %d, not %d", c.coins, c.amount, got, c.want)
		}
	}
	eachWrongPaying(func(coins []int, amount int) {
		if got := impl.WaysOf(coins, amount); got != -1 {
			t.Errorf("WaysOf(%v, %d) = %d", coins, amount, got)
		}
	})
}

func TestP33WaysAreAllWays(t *testing.T) {
	eachCoins(func(coins []int) {
		for _, amount := range []int{0, 1, 2, 3, 7, 12, 29, 30, 31, 40, 59, 60, 61, 119, 120} {
			want := 0
			eachWay(coins, amount, func([]int) { want++ })
			if got := impl.WaysOf(coins, amount); got != want {
				t.Fatalf("WaysOf(%v, %d) = %d, not %d", coins, amount, got, want)
			}
		}
	})
}

func TestP33WaysAreWithAndWithoutTheGreatestCoin(t *testing.T) {
	eachCoins(func(coins []int) {
		others, greatest := coins[:len(coins)-1], lastOf(coins)
		for amount := range 121 {
			want := 0
			if len(others) > 0 {
				want += impl.WaysOf(others, amount)
			} else if amount == 0 {
				want++
			}
			if amount >= greatest {
				want += impl.WaysOf(coins, amount-greatest)
			}
			got := impl.WaysOf(coins, amount)
			if got != want {
				t.Fatalf("WaysOf(%v, %d) = %d, not %d", coins, amount, got, want)
			}
			if _, _, ok := impl.FewestCoins(coins, amount); ok != (got > 0) {
				t.Fatalf("FewestCoins(%v, %d) tells %v of %d ways", coins, amount, ok, got)
			}
		}
	})
}

func TestP34FewestCoins(t *testing.T) {
	for _, c := range []struct {
		coins  []int
		amount int
		want   []int
	}{
		{[]int{1, 3, 4}, 6, []int{0, 2, 0}},
		{[]int{1, 3, 4}, 0, []int{0, 0, 0}},
		{[]int{1}, 0, []int{0}},
		{[]int{30}, 0, []int{0}},
		// One coin alone.
		{[]int{1}, 120, []int{120}},
		{[]int{7}, 7, []int{1}},
		{[]int{7}, 119, []int{17}},
		{[]int{30}, 120, []int{4}},
		// Of as few coins those with more of the greatest one in which two differ.
		{[]int{1, 2, 3}, 4, []int{1, 0, 1}},
		{[]int{1, 2, 3, 10}, 14, []int{1, 0, 1, 1}},
		{[]int{1, 5, 6, 9, 10}, 15, []int{0, 1, 0, 0, 1}},
		{[]int{1, 2, 3, 4, 5}, 6, []int{1, 0, 0, 0, 1}},
		{[]int{1, 2, 3, 4, 5}, 119, []int{0, 0, 0, 1, 23}},
		{[]int{2, 3, 4, 5}, 7, []int{1, 0, 0, 1}},
		{[]int{2, 4, 5, 7}, 9, []int{1, 0, 0, 1}},
		{[]int{3, 4, 5}, 8, []int{1, 0, 1}},
		{[]int{6, 7, 8}, 21, []int{1, 1, 1}},
		{[]int{28, 29, 30}, 87, []int{1, 1, 1}},
		// Greedy coins would be more, or would not pay.
		{[]int{1, 10, 25}, 30, []int{0, 3, 0}},
		{[]int{1, 7, 10}, 14, []int{0, 2, 0}},
		{[]int{3, 5}, 6, []int{2, 0}},
		{[]int{3, 5}, 9, []int{3, 0}},
		{[]int{6, 9, 20}, 44, []int{1, 2, 1}},
		{[]int{26, 27, 28, 29, 30}, 120, []int{0, 0, 0, 0, 4}},
		{[]int{1, 2, 5, 10, 20}, 120, []int{0, 0, 0, 0, 6}},
		{[]int{1, 2, 5, 10, 20}, 119, []int{0, 2, 1, 1, 5}},
	} {
		n, counts, ok := impl.FewestCoins(c.coins, c.amount)
		if n != total(c.want) || !slices.Equal(counts, c.want) || !ok {
			t.Errorf("FewestCoins(%v, %d) = %d, %v, %v, not %v", c.coins, c.amount, n, counts, ok, c.want)
		}
	}
}

func TestP34FewestCoinsOfOtherArguments(t *testing.T) {
	look := func(coins []int, amount int) {
		if n, counts, ok := impl.FewestCoins(coins, amount); n != 0 || counts != nil || ok {
			t.Errorf("FewestCoins(%v, %d) = %d, %v, %v", coins, amount, n, counts, ok)
		}
	}
	eachWrongPaying(look)
	for _, c := range []struct {
		coins  []int
		amount int
	}{
		{[]int{2}, 1}, {[]int{2}, 3}, {[]int{2}, 119}, {[]int{30}, 1}, {[]int{30}, 29}, {[]int{30}, 31}, {[]int{7}, 120},
		{[]int{3, 5}, 1}, {[]int{3, 5}, 2}, {[]int{3, 5}, 4}, {[]int{3, 5}, 7}, {[]int{2, 4}, 119}, {[]int{6, 9, 20}, 43},
		{[]int{10, 20, 30}, 115}, {[]int{26, 27, 28, 29, 30}, 31}, {[]int{29, 30}, 86},
	} {
		look(c.coins, c.amount)
	}
}

func TestP34NoFewerCoinsPay(t *testing.T) {
	look := func(coins []int, amount int) {
		want := fewestWayByHand(coins, amount)
		n, counts, ok := impl.FewestCoins(coins, amount)
		if !slices.Equal(counts, want) || ok != (want != nil) || n != total(want) {
			t.Fatalf("FewestCoins(%v, %d) = %d, %v, %v, not %v", coins, amount, n, counts, ok, want)
		}
	}
	eachSmallCoins(8, func(coins []int) {
		for amount := range 31 {
			look(coins, amount)
		}
	})
	eachCoins(func(coins []int) {
		for _, amount := range []int{0, 29, 30, 31, 45, 60, 61, 75, 90} {
			look(coins, amount)
		}
	})
	for _, coins := range someCoins {
		for amount := range 121 {
			look(coins, amount)
		}
	}
}

func TestP34TheFewestCoinsPay(t *testing.T) {
	eachCoins(func(coins []int) {
		for amount := range 121 {
			n, counts, ok := impl.FewestCoins(coins, amount)
			if ok && (len(counts) != len(coins) || paidBy(coins, counts) != amount || total(counts) != n || slices.Min(counts) < 0) {
				t.Fatalf("FewestCoins(%v, %d) = %d, %v", coins, amount, n, counts)
			}
			for _, coin := range coins {
				less, _, lessOk := impl.FewestCoins(coins, amount-coin)
				if lessOk && (!ok || n > less+1) {
					t.Fatalf("FewestCoins(%v, %d) = %d, %v, and of %d less %d", coins, amount, n, ok, coin, less)
				}
			}
		}
	})
}

func TestP35GreedyCoins(t *testing.T) {
	for _, c := range []struct {
		coins  []int
		amount int
		want   []int
	}{
		{[]int{1, 3, 4}, 6, []int{2, 0, 1}},
		{[]int{1, 3, 4}, 0, []int{0, 0, 0}},
		{[]int{1}, 0, []int{0}},
		{[]int{1}, 1, []int{1}},
		{[]int{1}, 120, []int{120}},
		{[]int{1, 30}, 29, []int{29, 0}},
		{[]int{1, 30}, 30, []int{0, 1}},
		{[]int{1, 30}, 120, []int{0, 4}},
		{[]int{1, 30}, 119, []int{29, 3}},
		{[]int{1, 10, 25}, 30, []int{5, 0, 1}},
		{[]int{1, 5, 10, 25}, 99, []int{4, 0, 2, 3}},
		{[]int{1, 2, 5, 10, 20}, 119, []int{0, 2, 1, 1, 5}},
		{[]int{1, 27, 28, 29, 30}, 86, []int{26, 0, 0, 0, 2}},
	} {
		if got := impl.GreedyCoins(c.coins, c.amount); !slices.Equal(got, c.want) {
			t.Errorf("GreedyCoins(%v, %d) = %v, not %v", c.coins, c.amount, got, c.want)
		}
	}
	look := func(coins []int, amount int) {
		if got := impl.GreedyCoins(coins, amount); got != nil {
			t.Errorf("GreedyCoins(%v, %d) = %v", coins, amount, got)
		}
	}
	eachWrongPaying(look)
	for _, coins := range [][]int{{2}, {30}, {2, 3}, {2, 4, 6, 8, 10}, {29, 30}, {26, 27, 28, 29, 30}} {
		for _, amount := range []int{0, 2, 4, 30, 120} {
			look(coins, amount)
		}
	}
}

func TestP35TheGreedyWayPays(t *testing.T) {
	eachCoins(func(coins []int) {
		if coins[0] != 1 {
			return
		}
		isGreedy := impl.IsGreedy(coins)
		for amount := range 121 {
			got := impl.GreedyCoins(coins, amount)
			if !slices.Equal(got, greedyByHand(coins, amount)) || paidBy(coins, got) != amount {
				t.Fatalf("GreedyCoins(%v, %d) = %v", coins, amount, got)
			}
			n, counts, _ := impl.FewestCoins(coins, amount)
			if total(got) < n || isGreedy && !slices.Equal(got, counts) {
				t.Fatalf("GreedyCoins(%v, %d) = %v, and FewestCoins %v", coins, amount, got, counts)
			}
		}
	})
}

func TestP36IsGreedy(t *testing.T) {
	for _, c := range []struct {
		coins []int
		want  bool
	}{
		{[]int{1}, true},
		{[]int{1, 2}, true},
		{[]int{1, 30}, true},
		{[]int{1, 29}, true},
		{[]int{1, 2, 3}, true},
		{[]int{1, 2, 3, 4, 5}, true},
		{[]int{1, 5, 10, 25}, true},
		{[]int{1, 2, 5, 10, 20}, true},
		{[]int{1, 3, 4}, false},
		{[]int{1, 10, 25}, false},
		{[]int{1, 15, 25}, false},
		{[]int{1, 7, 10}, false},
		{[]int{1, 29, 30}, false},
		{[]int{1, 27, 28, 29, 30}, false},
		// Without the greatest coin it is the other way round.
		{[]int{1, 2, 4, 5}, false},
		{[]int{1, 2, 4, 5, 8}, true},
		// The least amount at which it fails is the sum of the two greatest less one.
		{[]int{1, 4, 9}, false},
		// Coins of which the first one is not 1.
		{[]int{2}, false},
		{[]int{30}, false},
		{[]int{2, 4}, false},
		{[]int{2, 3}, false},
		{[]int{10, 20, 30}, false},
	} {
		if got := impl.IsGreedy(c.coins); got != c.want {
			t.Errorf("IsGreedy(%v) = %v", c.coins, got)
		}
	}
	for _, coins := range wrongCoins {
		if impl.IsGreedy(coins) {
			t.Errorf("IsGreedy(%v) = true", coins)
		}
	}
}

// TestP36TheGreedyWayFailsAtNoGreaterAmount looks at amounts far beyond those that are looked at by the program.
func TestP36TheGreedyWayFailsAtNoGreaterAmount(t *testing.T) {
	for n := range 5 {
		eachSet(n, 2, 30, func(others []int) {
			coins := append([]int{1}, others...)
			want := true
			for amount, number := range fewestNumbersByHand(coins, 180) {
				want = want && total(greedyByHand(coins, amount)) == number
			}
			if got := impl.IsGreedy(coins); got != want {
				t.Fatalf("IsGreedy(%v) = %v", coins, got)
			}
		})
	}
}

func TestP36WhereTheGreedyWayFailsItFailsSoon(t *testing.T) {
	eachCoins(func(coins []int) {
		if coins[0] != 1 {
			return
		}
		want := true
		for amount := range total(coins[max(0, len(coins)-2):]) {
			_, counts, ok := impl.FewestCoins(coins, amount)
			want = want && ok && slices.Equal(impl.GreedyCoins(coins, amount), counts)
		}
		if got := impl.IsGreedy(coins); got != want {
			t.Fatalf("IsGreedy(%v) = %v", coins, got)
		}
	})
}
