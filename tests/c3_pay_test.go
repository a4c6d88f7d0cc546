package tests

import (
	"math"
	"slices"
	"testing"

	"loop.example/sumsthatadd/impl"
)

// someBalances are balances that eachBalances takes beside the small ones.
var someBalances = [][]int{
	{300, -300},
	{-300, 300},
	{300, -299, -1},
	{300, 300, 300, -300, -300, -300},
	{300, -300, 299, -299, 1, -1},
	{300, -60, -60, -60, -60, -60},
	{-300, 60, 60, 60, 60, 60},
	{250, -50, -50, -50, -50, -50},
	{4, 2, -3, -3},
	{1, 2, 3, -1, -5},
	{7, 5, -3, -4, -2, -3},
	{0, 0, 5, 0, -5, 0},
	{1, 2, 4, 8, 16, -31},
	{0, 0, 0, 0, 0, 0},
}

// wrongBalances are numbers that are no balances.
var wrongBalances = [][]int{
	nil,
	{},
	{1},
	{-1},
	{300},
	{1, 1},
	{5, -4},
	{0, 0, 1},
	{301, -301},
	{-301, 301},
	{301, -300, -1},
	{300, 1, -301},
	{0, 0, 0, 0, 0, 0, 0},
	{1, -1, 0, 0, 0, 0, 0},
	{math.MaxInt, -math.MaxInt},
	{math.MinInt, math.MinInt},
	{math.MinInt, math.MaxInt, 1},
	{math.MinInt},
}

// wrongPays are lists of which one is no payment of two of three friends, or that are too many.
var wrongPays = [][]impl.Pay{
	{{From: 0, To: 0, Amount: 1}},
	{{From: 2, To: 2, Amount: 1}},
	{{From: -1, To: 0, Amount: 1}},
	{{From: 0, To: -1, Amount: 1}},
	{{From: 3, To: 0, Amount: 1}},
	{{From: 0, To: 3, Amount: 1}},
	{{From: math.MinInt, To: 0, Amount: 1}},
	{{From: 0, To: math.MaxInt, Amount: 1}},
	{{From: 0, To: 1, Amount: 0}},
	{{From: 0, To: 1, Amount: -1}},
	{{From: 0, To: 1, Amount: math.MinInt}},
	{{From: 0, To: 1, Amount: math.MaxInt}},
	{{From: 0, To: 1, Amount: 601}, {From: 1, To: 0, Amount: 601}},
	{{From: 0, To: 1, Amount: 300}, {From: 1, To: 0, Amount: 601}, {From: 0, To: 1, Amount: 301}},
	{{From: 0, To: 1, Amount: 2}, {From: 1, To: 1, Amount: 1}},
	{{From: 1, To: 1, Amount: 1}, {From: 0, To: 1, Amount: 2}},
	{{From: 0, To: 1, Amount: 2}, {From: 1, To: 0, Amount: -2}},
	slices.Repeat([]impl.Pay{{From: 0, To: 1, Amount: 1}}, 13),
	make([]impl.Pay, 1),
	make([]impl.Pay, 13),
}

// eachSmallBalances calls f with all balances of n friends of at most so much, and as much below 0.
func eachSmallBalances(n int, most int, f func(list []int)) {
	eachList(n-1, 2*most, func(list []int) {
		var balances []int
		for _, number := range list {
			balances = append(balances, number-most)
		}
		if last := -total(balances); -most <= last && last <= most {
			f(append(balances, last))
		}
	})
}

// eachBalances calls f with many balances: all small ones, and others of up to 6 friends.
func eachBalances(f func(list []int)) {
	eachSmallBalances(1, 3, f)
	eachSmallBalances(2, 300, f)
	eachSmallBalances(3, 12, f)
	eachSmallBalances(4, 4, f)
	eachSmallBalances(5, 2, f)
	eachSmallBalances(6, 1, f)
	for _, list := range someBalances {
		f(slices.Clone(list))
	}
	for n := 4; n <= 6; n++ {
		for seed := range 300 {
			f(mixedBalances(n, mixed(seed)))
		}
	}
}

// mixedBalances returns balances of n friends, many of them with more than one group.
func mixedBalances(n int, next func(below int) int) []int {
	list := make([]int, n)
	for range 1 + next(5) {
		from, to, amount := next(n), next(n), 1+next(60)
		list[from] += amount
		list[to] -= amount
	}
	return list
}

// countNot returns how many numbers are not 0.
func countNot(list []int) int {
	n := 0
	for _, number := range list {
		if number != 0 {
			n++
		}
	}
	return n
}

// groupsByHand returns what GroupsOf is to return, by all ways to make groups: each friend joins one that is there, or begins one.
func groupsByHand(list []int) int {
	most := 0
	var join func(at int, groups []int)
	join = func(at int, groups []int) {
		if at == len(list) {
			if countNot(groups) == 0 {
				most = max(most, len(groups))
			}
			return
		}
		for i := range groups {
			joined := slices.Clone(groups)
			joined[i] += list[at]
			join(at+1, joined)
		}
		join(at+1, append(slices.Clone(groups), list[at]))
	}
	join(0, nil)
	return most
}

// fewestByHand returns how many payments lead from balances of 0 to each other ones of
// n friends of at most so much, and as much below 0: as many lead back.
func fewestByHand(n int, most int) map[[6]int]int {
	fewest := map[[6]int]int{{}: 0}
	for work := [][6]int{{}}; len(work) > 0; work = work[1:] {
		for from := range n {
			for to := range n {
				next := work[0]
				for from != to && next[from] < most && next[to] > -most {
					next[from]++
					next[to]--
					if _, found := fewest[next]; !found {
						fewest[next] = fewest[work[0]] + 1
						work = append(work, next)
					}
				}
			}
		}
	}
	return fewest
}

// planByHand returns what PayPlan is to return.
func planByHand(list []int) []impl.Pay {
	left := slices.Clone(list)
	var plan []impl.Pay
	for slices.Max(left) > 0 {
		least, greatest := slices.Min(left), slices.Max(left)
		p := impl.Pay{From: slices.Index(left, least), To: slices.Index(left, greatest), Amount: min(-least, greatest)}
		plan = append(plan, p)
		left[p.From] += p.Amount
		left[p.To] -= p.Amount
	}
	return plan
}

func TestP19GroupsOf(t *testing.T) {
	for _, c := range []struct {
		list []int
		want int
	}{
		{[]int{0}, 1},
		{[]int{0, 0}, 2},
		{[]int{0, 0, 0, 0, 0, 0}, 6},
		{[]int{5, -5}, 1},
		{[]int{300, -300}, 1},
		{[]int{5, 0, -5}, 2},
		{[]int{5, -3, -2}, 1},
		{[]int{5, -5, 3, -3}, 2},
		{[]int{5, 3, -3, -5}, 2},
		{[]int{4, 2, -3, -3}, 1},
		{[]int{1, 2, 3, -1, -5}, 2},
		{[]int{1, -1, 2, -2, 3, -3}, 3},
		{[]int{1, 2, -3, 4, 5, -9}, 2},
		{[]int{3, 3, -6, 3, 3, -6}, 2},
		{[]int{0, 0, 0, 0, 1, -1}, 5},
		// The friends 0, 4 and 5 are a group, too, but then there are no more than two.
		{[]int{3, 1, 2, -3, -1, -2}, 3},
		{[]int{300, 300, 300, -300, -300, -300}, 3},
		{[]int{300, -60, -60, -60, -60, -60}, 1},
	} {
		if got := impl.GroupsOf(c.list); got != c.want {
			t.Errorf("GroupsOf(%v) = %d, not %d", c.list, got, c.want)
		}
	}
	eachBalances(func(list []int) {
		if got, want := impl.GroupsOf(list), groupsByHand(list); got != want {
			t.Fatalf("GroupsOf(%v) = %d, not %d", list, got, want)
		}
	})
	for _, list := range wrongBalances {
		if got := impl.GroupsOf(list); got != -1 {
			t.Errorf("GroupsOf(%v) = %d", list, got)
		}
	}
}

func TestP19GroupsAreAllForNothing(t *testing.T) {
	eachBalances(func(list []int) {
		groups, others := impl.GroupsOf(list), countNot(list)
		if (groups == len(list)) != (others == 0) {
			t.Fatalf("GroupsOf(%v) = %d", list, groups)
		}
		if others > 0 && groups < len(list)-others+1 {
			t.Fatalf("GroupsOf(%v) = %d, less than those with 0 and one more", list, groups)
		}
	})
}

func TestP20FewestPays(t *testing.T) {
	for _, c := range []struct {
		list []int
		want int
	}{
		{[]int{0}, 0},
		{[]int{0, 0, 0, 0, 0, 0}, 0},
		{[]int{5, -5}, 1},
		{[]int{300, -300}, 1},
		{[]int{5, 0, -5}, 1},
		{[]int{5, -3, -2}, 2},
		{[]int{5, -5, 3, -3}, 2},
		{[]int{4, 2, -3, -3}, 3},
		{[]int{1, 2, 3, -1, -5}, 3},
		{[]int{1, -1, 2, -2, 3, -3}, 3},
		{[]int{1, 2, 4, 8, 16, -31}, 5},
	} {
		if got := impl.FewestPays(c.list); got != c.want {
			t.Errorf("FewestPays(%v) = %d, not %d", c.list, got, c.want)
		}
	}
	for _, list := range wrongBalances {
		if got := impl.FewestPays(list); got != -1 {
			t.Errorf("FewestPays(%v) = %d", list, got)
		}
	}
}

// TestP20NoFewerPays looks for payments themselves. Friends who are joined by as few
// as may be can pay so that none is ever further from 0 than all who get together.
func TestP20NoFewerPays(t *testing.T) {
	for n, most := range []int{1: 3, 2: 6, 3: 4, 4: 3, 5: 2, 6: 1} {
		if n == 0 {
			continue
		}
		fewest := fewestByHand(n, most*(n/2))
		eachSmallBalances(n, most, func(list []int) {
			var key [6]int
			copy(key[:], list)
			if got := impl.FewestPays(list); got != fewest[key] {
				t.Fatalf("FewestPays(%v) = %d, not %d", list, got, fewest[key])
			}
		})
	}
}

func TestP20PaymentsAreFewestByMostGroups(t *testing.T) {
	eachBalances(func(list []int) {
		fewest, groups, plan := impl.FewestPays(list), impl.GroupsOf(list), impl.PayPlan(list)
		if fewest+groups != len(list) {
			t.Fatalf("FewestPays(%v) = %d, and there are %d groups", list, fewest, groups)
		}
		if fewest > len(plan) || 2*fewest < countNot(list) {
			t.Fatalf("FewestPays(%v) = %d, and PayPlan = %v", list, fewest, plan)
		}
	})
}

func TestP21PayPlan(t *testing.T) {
	for _, c := range []struct {
		list []int
		want []impl.Pay
	}{
		{[]int{0}, nil},
		{[]int{0, 0, 0, 0, 0, 0}, nil},
		{[]int{5, -5}, []impl.Pay{{From: 1, To: 0, Amount: 5}}},
		{[]int{-5, 5}, []impl.Pay{{From: 0, To: 1, Amount: 5}}},
		{[]int{300, -300}, []impl.Pay{{From: 1, To: 0, Amount: 300}}},
		{[]int{0, 5, 0, -5}, []impl.Pay{{From: 3, To: 1, Amount: 5}}},
		{[]int{5, -3, -2}, []impl.Pay{{From: 1, To: 0, Amount: 3}, {From: 2, To: 0, Amount: 2}}},
		{[]int{5, -2, -3}, []impl.Pay{{From: 2, To: 0, Amount: 3}, {From: 1, To: 0, Amount: 2}}},
		{[]int{2, -2, 2, -2}, []impl.Pay{{From: 1, To: 0, Amount: 2}, {From: 3, To: 2, Amount: 2}}},
		{[]int{-4, 1, 3}, []impl.Pay{{From: 0, To: 2, Amount: 3}, {From: 0, To: 1, Amount: 1}}},
		// After one payment the friend with the least balance is another one.
		{[]int{-5, -4, 3, 3, 3}, []impl.Pay{{From: 0, To: 2, Amount: 3}, {From: 1, To: 3, Amount: 3}, {From: 0, To: 4, Amount: 2}, {From: 1, To: 4, Amount: 1}}},
		// And the same balance as that of a friend ahead lets this one pay.
		{[]int{-2, -4, 2, 2, 2}, []impl.Pay{{From: 1, To: 2, Amount: 2}, {From: 0, To: 3, Amount: 2}, {From: 1, To: 4, Amount: 2}}},
		// There are two groups, but the plan does not look for them.
		{[]int{5, 4, -3, -4, -2}, []impl.Pay{{From: 3, To: 0, Amount: 4}, {From: 2, To: 1, Amount: 3}, {From: 4, To: 0, Amount: 1}, {From: 4, To: 1, Amount: 1}}},
	} {
		if got := impl.PayPlan(c.list); !slices.Equal(got, c.want) {
			t.Errorf("PayPlan(%v) = %v, not %v", c.list, got, c.want)
		}
	}
	for _, list := range wrongBalances {
		if got := impl.PayPlan(list); got != nil {
			t.Errorf("PayPlan(%v) = %v", list, got)
		}
	}
}

func TestP21PayPlanByHand(t *testing.T) {
	eachBalances(func(list []int) {
		kept, want := slices.Clone(list), planByHand(list)
		// The same each time: the order of who must pay is none of a map.
		for range 3 {
			if got := impl.PayPlan(list); !slices.Equal(got, want) || !slices.Equal(list, kept) {
				t.Fatalf("PayPlan(%v) = %v, not %v; they are then %v", kept, got, want, list)
			}
		}
	})
}

func TestP21PlansSettleAll(t *testing.T) {
	eachBalances(func(list []int) {
		plan, others := impl.PayPlan(list), countNot(list)
		if after, ok := impl.AfterPays(list, plan); !ok || len(after) != len(list) || countNot(after) != 0 {
			t.Fatalf("AfterPays(%v, %v) = %v, %v", list, plan, after, ok)
		}
		// Where nobody must pay or get there is nothing to be fewer than.
		if len(plan) >= max(1, others) {
			t.Fatalf("PayPlan(%v) = %v is not fewer than %d", list, plan, others)
		}
	})
}

func TestP22AfterPays(t *testing.T) {
	for _, c := range []struct {
		list []int
		pays []impl.Pay
		want []int
	}{
		{[]int{0}, nil, []int{0}},
		{[]int{5, -5}, nil, []int{5, -5}},
		{[]int{5, -5}, []impl.Pay{}, []int{5, -5}},
		{[]int{5, -5}, []impl.Pay{{From: 1, To: 0, Amount: 2}}, []int{3, -3}},
		{[]int{5, -5}, []impl.Pay{{From: 0, To: 1, Amount: 2}}, []int{7, -7}},
		{[]int{0, 0, 0}, []impl.Pay{{From: 0, To: 1, Amount: 1}, {From: 1, To: 2, Amount: 3}}, []int{1, 2, -3}},
		{[]int{0, 0, 0, 0, 0, 0}, []impl.Pay{{From: 5, To: 0, Amount: 300}}, []int{-300, 0, 0, 0, 0, 300}},
		{[]int{0, 0, 0, 0, 0, 0}, []impl.Pay{{From: 5, To: 0, Amount: 301}}, nil},
		{[]int{-300, 300}, []impl.Pay{{From: 0, To: 1, Amount: 600}}, []int{300, -300}},
		{[]int{-299, 299}, []impl.Pay{{From: 0, To: 1, Amount: 600}}, nil},
		{[]int{-300, 300}, []impl.Pay{{From: 0, To: 1, Amount: 601}}, nil},
		{[]int{300, -300}, []impl.Pay{{From: 0, To: 1, Amount: 1}}, nil},
		{[]int{300, -200, -100}, []impl.Pay{{From: 0, To: 1, Amount: 1}}, nil},
		{[]int{-300, 200, 100}, []impl.Pay{{From: 1, To: 0, Amount: 1}}, nil},
		{[]int{0, 0}, slices.Repeat([]impl.Pay{{From: 1, To: 0, Amount: 25}}, 12), []int{-300, 300}},
		{[]int{0, 0}, slices.Repeat([]impl.Pay{{From: 1, To: 0, Amount: 26}}, 12), nil},
		{[]int{0, 0}, slices.Repeat([]impl.Pay{{From: 1, To: 0, Amount: 25}}, 13), nil},
		// What counts are the balances behind all payments.
		{[]int{300, -300}, []impl.Pay{{From: 0, To: 1, Amount: 1}, {From: 1, To: 0, Amount: 1}}, []int{300, -300}},
		{[]int{0, 0}, slices.Repeat([]impl.Pay{{From: 0, To: 1, Amount: 600}, {From: 1, To: 0, Amount: 600}}, 6), []int{0, 0}},
	} {
		if got, ok := impl.AfterPays(c.list, c.pays); !slices.Equal(got, c.want) || ok != (c.want != nil) {
			t.Errorf("AfterPays(%v, %v) = %v, %v, not %v", c.list, c.pays, got, ok, c.want)
		}
	}
}

func TestP22AfterPaysOfOtherArguments(t *testing.T) {
	for _, list := range wrongBalances {
		for _, pays := range [][]impl.Pay{nil, {{From: 0, To: 1, Amount: 1}}, {{From: 1, To: 0, Amount: 1}}} {
			if got, ok := impl.AfterPays(list, pays); got != nil || ok {
				t.Errorf("AfterPays(%v, %v) = %v, %v", list, pays, got, ok)
			}
		}
	}
	for _, pays := range wrongPays {
		if got, ok := impl.AfterPays([]int{0, 0, 0}, pays); got != nil || ok {
			t.Errorf("AfterPays({0, 0, 0}, %v) = %v, %v", pays, got, ok)
		}
	}
	for from := -1; from <= 1; from++ {
		for to := -1; to <= 1; to++ {
			if got, ok := impl.AfterPays([]int{0}, []impl.Pay{{From: from, To: to, Amount: 1}}); got != nil || ok {
				t.Errorf("one friend alone pays from %d to %d: %v, %v", from, to, got, ok)
			}
		}
	}
	for n := 2; n <= 6; n++ {
		for _, p := range []impl.Pay{{From: n, To: 0, Amount: 1}, {From: 0, To: n, Amount: 1}, {From: n - 1, To: n - 1, Amount: 1}} {
			if got, ok := impl.AfterPays(make([]int, n), []impl.Pay{p}); got != nil || ok {
				t.Errorf("of %d friends %v: %v, %v", n, p, got, ok)
			}
		}
	}
}

func TestP22PaymentsKeepTheSum(t *testing.T) {
	settled := 0
	eachBalances(func(list []int) {
		next := mixed(total(list[:1]) + 300)
		var pays, back []impl.Pay
		for range next(13) * min(1, len(list)-1) {
			from := next(len(list))
			p := impl.Pay{From: from, To: (from + 1 + next(len(list)-1)) % len(list), Amount: 1 + next(100)}
			pays = append(pays, p)
			back = append(back, impl.Pay{From: p.To, To: p.From, Amount: p.Amount})
		}
		want := slices.Clone(list)
		for _, p := range pays {
			want[p.From] += p.Amount
			want[p.To] -= p.Amount
		}
		after, ok := impl.AfterPays(list, pays)
		if ok != (slices.Max(want) <= 300 && slices.Min(want) >= -300) || ok && !slices.Equal(after, want) || total(after) != 0 {
			t.Fatalf("AfterPays(%v, %v) = %v, %v, not %v", list, pays, after, ok, want)
		}
		if !ok {
			return
		}
		settled++
		for range 2 {
			if before, ok := impl.AfterPays(after, back); !ok || !slices.Equal(before, list) {
				t.Fatalf("AfterPays(%v, %v) = %v, and with as many back %v, %v", list, pays, after, before, ok)
			}
			slices.Reverse(back)
		}
	})
	if settled < 1000 {
		t.Errorf("only %d balances are there behind payments", settled)
	}
}

func TestP23BillShares(t *testing.T) {
	for _, c := range []struct{ paid, want []int }{
		{[]int{0}, []int{0}},
		{[]int{7}, []int{0}},
		{[]int{50}, []int{0}},
		{[]int{0, 0}, []int{0, 0}},
		{[]int{1, 0}, []int{0, 0}},
		{[]int{0, 1}, []int{-1, 1}},
		{[]int{10, 0, 0}, []int{6, -3, -3}},
		{[]int{0, 0, 10}, []int{-4, -3, 7}},
		{[]int{50, 0}, []int{25, -25}},
		{[]int{50, 50, 50, 50, 50, 50}, []int{0, 0, 0, 0, 0, 0}},
		{[]int{50, 0, 0, 0, 0, 0}, []int{41, -9, -8, -8, -8, -8}},
		{[]int{0, 0, 0, 0, 0, 50}, []int{-9, -9, -8, -8, -8, 42}},
		{[]int{50, 50, 50, 50, 50, 49}, []int{0, 0, 0, 0, 0, 0}},
		{[]int{49, 50, 50, 50, 50, 50}, []int{-1, 0, 0, 0, 0, 1}},
	} {
		if got := impl.BillShares(c.paid); !slices.Equal(got, c.want) {
			t.Errorf("BillShares(%v) = %v, not %v", c.paid, got, c.want)
		}
	}
	for _, paid := range [][]int{
		nil, {}, {-1}, {51}, {math.MinInt}, {math.MaxInt}, {0, -1}, {1, -1}, {-1, 50}, {0, 51}, {51, -1}, {1, 2, 3, 4, 5, 51},
		{0, 0, 0, 0, 0, 0, 0}, {1, 2, 3, 4, 5, 6, 7}, {math.MaxInt, math.MaxInt, 2},
	} {
		if got := impl.BillShares(paid); got != nil {
			t.Errorf("BillShares(%v) = %v", paid, got)
		}
	}
}

func TestP23BillsAreSettled(t *testing.T) {
	look := func(paid []int) {
		balances := impl.BillShares(paid)
		if len(balances) != len(paid) || total(balances) != 0 {
			t.Fatalf("BillShares(%v) = %v", paid, balances)
		}
		var shares []int
		for friend, balance := range balances {
			shares = append(shares, paid[friend]-balance)
		}
		if slices.Max(shares)-slices.Min(shares) > 1 || !slices.Equal(shares, impl.SplitEven(total(paid), len(paid))) {
			t.Fatalf("BillShares(%v) = %v: the shares are %v", paid, balances, shares)
		}
		if impl.GroupsOf(balances) < 1 {
			t.Fatalf("BillShares(%v) = %v, which are no balances", paid, balances)
		}
	}
	eachList(1, 50, look)
	eachList(2, 50, look)
	for n := 3; n <= 6; n++ {
		eachList(n, 3, look)
		for seed := range 100 {
			next := mixed(seed)
			paid := make([]int, n)
			for friend := range paid {
				paid[friend] = next(51)
			}
			look(paid)
		}
	}
}

func TestC3PayArgumentsAndResults(t *testing.T) {
	list, pays, paid := []int{5, -3, -2, 9, 9}[:3], []impl.Pay{{From: 1, To: 0, Amount: 3}}, []int{10, 0, 0, 9, 9}[:3]
	for range 2 {
		after, _ := impl.AfterPays(list, pays)
		after[0]++
		same, _ := impl.AfterPays(list, nil)
		same[0]++
		shares := append(impl.BillShares(paid), 1)
		shares[0]++
		plan := append(impl.PayPlan(list), impl.Pay{})
		plan[0].Amount++
		if !slices.Equal(append(after, 1), []int{3, 0, -2, 1}) || !slices.Equal(append(same, 1), []int{6, -3, -2, 1}) || !slices.Equal(shares, []int{7, -3, -3, 1}) || len(plan) != 3 || plan[0].Amount != 4 {
			t.Errorf("called again: %v, %v, %v, %v", after, same, shares, plan)
		}
		if groups, fewest := impl.GroupsOf(list), impl.FewestPays(list); groups != 1 || fewest != 2 {
			t.Errorf("called again: %d, %d", groups, fewest)
		}
	}
	if !slices.Equal(list[:5], []int{5, -3, -2, 9, 9}) || !slices.Equal(paid[:5], []int{10, 0, 0, 9, 9}) || pays[0] != (impl.Pay{From: 1, To: 0, Amount: 3}) {
		t.Errorf("the arguments are %v, %v, %v", list[:5], paid[:5], pays)
	}
}
