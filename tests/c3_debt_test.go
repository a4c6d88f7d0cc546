package tests

import (
	"math"
	"slices"
	"testing"

	"loop.example/sumsthatadd/impl"
)

// someDebts are debts that eachDebts takes beside the small ones.
var someDebts = [][][]int{
	{{0, 50}, {50, 0}},
	{{0, 50}, {49, 0}},
	{{0, 10, 0}, {0, 0, 8}, {5, 0, 0}},
	{{0, 50, 50}, {50, 0, 50}, {50, 50, 0}},
	{{0, 3, 7}, {4, 0, 0}, {2, 6, 0}},
	{{0, 0, 9, 0}, {0, 0, 0, 9}, {0, 9, 0, 0}, {9, 0, 0, 0}},
	{{0, 1, 2, 3, 4}, {5, 0, 6, 7, 8}, {9, 10, 0, 11, 12}, {13, 14, 15, 0, 16}, {17, 18, 19, 20, 0}},
	{{0, 8, 0, 0, 0, 0}, {0, 0, 7, 0, 0, 0}, {0, 0, 0, 6, 0, 0}, {0, 0, 0, 0, 5, 0}, {0, 0, 0, 0, 0, 4}, {3, 0, 0, 0, 0, 0}},
	{{0, 0, 0, 0, 0, 3}, {8, 0, 0, 0, 0, 0}, {0, 7, 0, 0, 0, 0}, {0, 0, 6, 0, 0, 0}, {0, 0, 0, 5, 0, 0}, {0, 0, 0, 0, 4, 0}},
	{{0, 50, 50, 50, 50, 50}, {0, 0, 0, 0, 0, 0}, {0, 0, 0, 0, 0, 0}, {0, 0, 0, 0, 0, 0}, {0, 0, 0, 0, 0, 0}, {0, 0, 0, 0, 0, 0}},
	squareOf(6, func(from, to int) int { return 50 }),
	squareOf(6, func(from, to int) int { return 49 + (from+to)%2 }),
	squareOf(6, func(from, to int) int { return max(0, to-from) }),
}

// wrongDebts are rows that are no debts.
var wrongDebts = [][][]int{
	nil,
	{},
	{{}},
	{nil},
	{{1}},
	{{-1}},
	{{50}},
	{{0, 0}},
	{{0}, {0}},
	{{0, 1}},
	{{0, 1}, nil},
	{{0, 1}, {1}},
	{{0}, {1, 0}},
	{{0, 1}, {1, 0, 0}},
	{{0, 1, 0}, {1, 0, 0}},
	{{0, 1}, {1, 0}, {0, 0}},
	{{0, 1}, {1, 0}, {}},
	{{1, 0}, {0, 0}},
	{{0, 0}, {0, 1}},
	{{0, 0, 0}, {0, 0, 0}, {0, 0, 7}},
	{{0, -1}, {0, 0}},
	{{0, 0}, {-1, 0}},
	{{0, 51}, {0, 0}},
	{{0, 0}, {51, 0}},
	{{0, 0, 0}, {0, 0, 0}, {0, 51, 0}},
	{{0, math.MaxInt}, {0, 0}},
	{{0, 0}, {math.MinInt, 0}},
	{{0, math.MaxInt}, {math.MaxInt, 0}},
	squareOf(7, func(from, to int) int { return 0 }),
	squareOf(7, func(from, to int) int { return 1 }),
	squareOf(7, func(from, to int) int { return 1 })[:6],
}

// squareOf returns debts of n friends by a rule.
func squareOf(n int, rule func(from, to int) int) [][]int {
	owes := make([][]int, n)
	for from := range n {
		owes[from] = make([]int, n)
		for to := range n {
			if from != to {
				owes[from][to] = rule(from, to)
			}
		}
	}
	return owes
}

// eachSmallDebts calls f with all debts of n friends of at most so much each.
func eachSmallDebts(n int, most int, f func(owes [][]int)) {
	eachList(n*(n-1), most, func(list []int) {
		at := -1
		f(squareOf(n, func(from, to int) int {
			at++
			return list[at]
		}))
	})
}

// eachDebts calls f with the debts of many friends: all small ones, and others of up to 6 friends.
func eachDebts(f func(owes [][]int)) {
	eachSmallDebts(1, 0, f)
	eachSmallDebts(2, 50, f)
	eachSmallDebts(3, 3, f)
	eachSmallDebts(4, 1, f)
	for _, owes := range someDebts {
		f(cloneRows(owes))
	}
	for n := 4; n <= 6; n++ {
		for seed := range 100 {
			next := mixed(seed)
			// Every other one has many debts of 0, so that circles are of many lengths.
			f(squareOf(n, func(from, to int) int {
				if seed%2 == 1 && next(3) > 0 {
					return 0
				}
				return next(51)
			}))
		}
	}
}

// mixed returns a function that returns one number in 0..below-1 after the other, the same ones for the same seed.
func mixed(seed int) func(below int) int {
	state := uint32(seed)*2654435761 + 12345
	return func(below int) int {
		state = state*1664525 + 1013904223
		return int(state>>8) % below
	}
}

// circlesOf returns all circles of different ones of n friends, told with the least one first, in order.
func circlesOf(n int) [][]int {
	var circles [][]int
	var extend func(way []int)
	extend = func(way []int) {
		if len(way) > 1 {
			circles = append(circles, slices.Clone(way))
		}
		for next := range n {
			if next > way[0] && !slices.Contains(way, next) {
				extend(append(slices.Clone(way), next))
			}
		}
	}
	for friend := range n {
		extend([]int{friend})
	}
	slices.SortFunc(circles, slices.Compare[[]int])
	return circles
}

// circleDebts returns the debts of a circle, of which one may be 0.
func circleDebts(owes [][]int, circle []int) []int {
	var debts []int
	for i, from := range circle {
		debts = append(debts, owes[from][circle[(i+1)%len(circle)]])
	}
	return debts
}

// nettedByHand returns what NetDebts is to return: no debt grows, so that a circle
// that is taken down is never there again, and all circles are met in order once.
func nettedByHand(owes [][]int) [][]int {
	left := cloneRows(owes)
	for _, circle := range circlesOf(len(owes)) {
		least := slices.Min(circleDebts(left, circle))
		for i, from := range circle {
			left[from][circle[(i+1)%len(circle)]] -= least
		}
	}
	return left
}

// balancesByHand returns what BalancesOf is to return.
func balancesByHand(owes [][]int) []int {
	var balances []int
	for friend, column := range turned(owes) {
		balances = append(balances, total(column)-total(owes[friend]))
	}
	return balances
}

func TestC3Limits(t *testing.T) {
	if impl.MaxDebt != 50 || impl.MaxFriends != 6 || impl.MaxBalance != 300 || impl.MaxPays != 12 {
		t.Errorf("the limits are %d, %d, %d and %d", impl.MaxDebt, impl.MaxFriends, impl.MaxBalance, impl.MaxPays)
	}
}

func TestP16ValidDebts(t *testing.T) {
	eachDebts(func(owes [][]int) {
		if !impl.ValidDebts(owes) {
			t.Fatalf("ValidDebts(%v) = false", owes)
		}
	})
	for _, owes := range wrongDebts {
		if impl.ValidDebts(owes) {
			t.Errorf("ValidDebts(%v) = true", owes)
		}
	}
	for n := range 10 {
		for most := 48; most <= 52; most++ {
			owes := squareOf(n, func(from, to int) int { return most - (from+to+1)%2 })
			if got, want := impl.ValidDebts(owes), 1 <= n && n <= 6 && (n == 1 || most <= 50); got != want {
				t.Errorf("ValidDebts(%v) = %v", owes, got)
			}
		}
	}
}

func TestP16EachDebtHasItsRange(t *testing.T) {
	for n := 1; n <= 6; n++ {
		for from := range n {
			for to := range n {
				for _, debt := range []int{math.MinInt, -1, 0, 1, 49, 50, 51, math.MaxInt} {
					owes := squareOf(n, func(int, int) int { return 2 })
					owes[from][to] = debt
					want := debt == 0 || from != to && 0 < debt && debt <= 50
					if got := impl.ValidDebts(owes); got != want {
						t.Errorf("ValidDebts(%v) = %v", owes, got)
					}
				}
			}
		}
	}
}

func TestP16DebtsCanBeTurnedRound(t *testing.T) {
	eachDebts(func(owes [][]int) {
		if !impl.ValidDebts(turned(owes)) {
			t.Fatalf("ValidDebts(%v) = false, but it is true of %v", turned(owes), owes)
		}
	})
}

func TestP17BalancesOf(t *testing.T) {
	for _, c := range []struct {
		owes [][]int
		want []int
	}{
		{[][]int{{0}}, []int{0}},
		{[][]int{{0, 0}, {0, 0}}, []int{0, 0}},
		{[][]int{{0, 7}, {0, 0}}, []int{-7, 7}},
		{[][]int{{0, 0}, {7, 0}}, []int{7, -7}},
		{[][]int{{0, 7}, {4, 0}}, []int{-3, 3}},
		{[][]int{{0, 50}, {50, 0}}, []int{0, 0}},
		{[][]int{{0, 10, 0}, {0, 0, 8}, {5, 0, 0}}, []int{-5, 2, 3}},
		{[][]int{{0, 1, 2}, {0, 0, 4}, {0, 0, 0}}, []int{-3, -3, 6}},
		{squareOf(6, func(from, to int) int { return 0 }), []int{0, 0, 0, 0, 0, 0}},
		{squareOf(6, func(from, to int) int { return 50 }), []int{0, 0, 0, 0, 0, 0}},
		{squareOf(6, func(from, to int) int { return 50 * ((6 - from) / 6) }), []int{-250, 50, 50, 50, 50, 50}},
		{squareOf(6, func(from, to int) int { return 50 * (to / 5) }), []int{-50, -50, -50, -50, -50, 250}},
	} {
		if got := impl.BalancesOf(c.owes); !slices.Equal(got, c.want) {
			t.Errorf("BalancesOf(%v) = %v, not %v", c.owes, got, c.want)
		}
	}
	eachDebts(func(owes [][]int) {
		if got, want := impl.BalancesOf(owes), balancesByHand(owes); !slices.Equal(got, want) {
			t.Fatalf("BalancesOf(%v) = %v, not %v", owes, got, want)
		}
	})
	for _, owes := range wrongDebts {
		if got := impl.BalancesOf(owes); got != nil {
			t.Errorf("BalancesOf(%v) = %v", owes, got)
		}
	}
}

func TestP17BalancesAddUpToNothing(t *testing.T) {
	eachDebts(func(owes [][]int) {
		balances, back := impl.BalancesOf(owes), impl.BalancesOf(turned(owes))
		if len(balances) != len(owes) || len(back) != len(owes) || total(balances) != 0 {
			t.Fatalf("BalancesOf(%v) = %v, and of them turned round %v", owes, balances, back)
		}
		for friend, balance := range balances {
			if back[friend] != -balance {
				t.Fatalf("BalancesOf(%v) = %v, and of them turned round %v", owes, balances, back)
			}
		}
		if impl.GroupsOf(balances) < 1 {
			t.Fatalf("BalancesOf(%v) = %v, which are no balances", owes, balances)
		}
	})
}

func TestP18NetDebts(t *testing.T) {
	for _, c := range []struct{ owes, want [][]int }{
		{[][]int{{0}}, [][]int{{0}}},
		{[][]int{{0, 0}, {0, 0}}, [][]int{{0, 0}, {0, 0}}},
		{[][]int{{0, 7}, {4, 0}}, [][]int{{0, 3}, {0, 0}}},
		{[][]int{{0, 4}, {7, 0}}, [][]int{{0, 0}, {3, 0}}},
		{[][]int{{0, 50}, {50, 0}}, [][]int{{0, 0}, {0, 0}}},
		{[][]int{{0, 50}, {0, 0}}, [][]int{{0, 50}, {0, 0}}},
		{[][]int{{0, 10, 0}, {0, 0, 8}, {5, 0, 0}}, [][]int{{0, 5, 0}, {0, 0, 3}, {0, 0, 0}}},
		{[][]int{{0, 0, 5}, {10, 0, 0}, {0, 8, 0}}, [][]int{{0, 0, 0}, {5, 0, 0}, {0, 3, 0}}},
		// 0 and 1 begin the circle of 0, 1 and 2, so that they are ahead of it.
		{[][]int{{0, 5, 0}, {3, 0, 4}, {6, 0, 0}}, [][]int{{0, 0, 0}, {0, 0, 2}, {4, 0, 0}}},
		// The circle of 0, 1 and 2 is ahead of that of 0 and 2, though this one is shorter.
		{[][]int{{0, 5, 5}, {0, 0, 5}, {5, 0, 0}}, [][]int{{0, 0, 5}, {0, 0, 0}, {0, 0, 0}}},
		// The circle of 0, 2 and 1 is behind those of 0 and 1, and of 0 and 2.
		{[][]int{{0, 0, 5}, {5, 0, 0}, {4, 5, 0}}, [][]int{{0, 0, 0}, {4, 0, 0}, {0, 4, 0}}},
		// The circle of 0, 2 and 3 is ahead of that of 1, 2 and 3, which begins with a greater friend.
		{
			[][]int{{0, 0, 5, 0}, {0, 0, 5, 0}, {0, 0, 0, 6}, {5, 5, 0, 0}},
			[][]int{{0, 0, 0, 0}, {0, 0, 4, 0}, {0, 0, 0, 0}, {0, 4, 0, 0}},
		},
		{squareOf(6, func(from, to int) int { return 50 }), squareOf(6, func(from, to int) int { return 0 })},
		// Circles of two alone: a friend to whom all others owe, and who owes all others.
		{
			[][]int{{0, 26, 27, 28, 29, 30}, {24, 0, 0, 0, 0, 0}, {27, 0, 0, 0, 0, 0}, {29, 0, 0, 0, 0, 0}, {0, 0, 0, 0, 0, 0}, {50, 0, 0, 0, 0, 0}},
			[][]int{{0, 2, 0, 0, 29, 0}, {0, 0, 0, 0, 0, 0}, {0, 0, 0, 0, 0, 0}, {1, 0, 0, 0, 0, 0}, {0, 0, 0, 0, 0, 0}, {20, 0, 0, 0, 0, 0}},
		},
		{squareOf(6, func(from, to int) int { return max(0, to-from) }), squareOf(6, func(from, to int) int { return max(0, to-from) })},
	} {
		if got := impl.NetDebts(c.owes); !sameRows(got, c.want) {
			t.Errorf("NetDebts(%v) = %v, not %v", c.owes, got, c.want)
		}
	}
	eachDebts(func(owes [][]int) {
		kept := cloneRows(owes)
		if got, want := impl.NetDebts(owes), nettedByHand(owes); !sameRows(got, want) || !sameRows(owes, kept) {
			t.Fatalf("NetDebts(%v) = %v, not %v; they are then %v", kept, got, want, owes)
		}
	})
	for _, owes := range wrongDebts {
		if got := impl.NetDebts(owes); got != nil {
			t.Errorf("NetDebts(%v) = %v", owes, got)
		}
	}
}

func TestP18NettedDebtsGoNowhereRound(t *testing.T) {
	eachDebts(func(owes [][]int) {
		netted := impl.NetDebts(owes)
		if !impl.ValidDebts(netted) || !slices.Equal(impl.BalancesOf(netted), impl.BalancesOf(owes)) {
			t.Fatalf("NetDebts(%v) = %v with other balances", owes, netted)
		}
		for from, row := range owes {
			for to, debt := range row {
				if netted[from][to] > debt {
					t.Fatalf("NetDebts(%v) = %v with a greater debt", owes, netted)
				}
			}
		}
		for _, circle := range circlesOf(len(owes)) {
			if slices.Min(circleDebts(netted, circle)) > 0 {
				t.Fatalf("NetDebts(%v) = %v with the circle %v", owes, netted, circle)
			}
		}
		if again := impl.NetDebts(netted); !sameRows(again, netted) {
			t.Fatalf("NetDebts(%v) = %v, and netted again %v", owes, netted, again)
		}
	})
}

func TestC3DebtArgumentsAndResults(t *testing.T) {
	want := [][]int{{0, 10, 0}, {0, 0, 8}, {5, 0, 0}}
	owes := cloneRows(want)
	for range 2 {
		netted := impl.NetDebts(owes)
		for i := range netted {
			netted[i] = append(netted[i], 9, 9)
			netted[i][i]++
		}
		if !sameRows(netted, [][]int{{1, 5, 0, 9, 9}, {0, 1, 3, 9, 9}, {0, 0, 1, 9, 9}}) {
			t.Errorf("rows of the result share memory: %v", netted)
		}
		balances := append(impl.BalancesOf(owes), 9)
		balances[0]++
		if !slices.Equal(balances, []int{-4, 2, 3, 9}) || !impl.ValidDebts(owes) || !sameRows(owes, want) {
			t.Errorf("the balances are %v, the debts %v", balances, owes)
		}
	}
	none := [][]int{{0, 0}, {0, 0}}
	if netted := impl.NetDebts(none); len(netted) == 2 {
		netted[0][1], netted[1][0] = 1, 1
	}
	if !sameRows(none, [][]int{{0, 0}, {0, 0}}) {
		t.Errorf("NetDebts returns its argument: %v", none)
	}
}
