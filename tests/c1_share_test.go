package tests

import (
	"math"
	"slices"
	"testing"

	"loop.example/sumsthatadd/impl"
)

// someTotals are totals of all sizes, both limits among them.
var someTotals = []int{0, 1, 2, 3, 5, 7, 10, 11, 99, 100, 101, 99999, impl.MaxAmount}

// wrongTotals are numbers that are no amounts.
var wrongTotals = []int{-1, impl.MaxAmount + 1, math.MinInt, math.MaxInt}

// wrongParts are lists that are no weights of parts.
var wrongParts = [][]int{
	nil,
	{},
	{0},
	{0, 0, 0},
	repeated(0, impl.MaxParts),
	{-1},
	{1, -1},
	{5, -1, 3},
	{impl.MaxWeight + 1},
	{1, impl.MaxWeight + 1},
	{math.MaxInt, 1},
	{math.MinInt, 1},
	repeated(1, impl.MaxParts+1),
	append([]int{1}, repeated(0, impl.MaxParts)...),
}

// someParts are weights of parts that eachSharing takes beside the small ones.
var someParts = [][]int{
	{impl.MaxWeight},
	{impl.MaxWeight, 0},
	{0, impl.MaxWeight},
	{50, 49, 1},
	{17, 13, 11, 7, 5, 3},
	{7, 0, 7, 0, 7, 0, 7, 0},
	{0, 0, 0, 0, 0, 0, 0, 1},
	{1, 2, 3, 4, 5, 6, 7, 8},
	{8, 7, 6, 5, 4, 3, 2, 1},
	{1, 1, 1, 1, 1, 1, 1, 50},
	repeated(1, impl.MaxParts),
	repeated(impl.MaxWeight, impl.MaxParts),
}

// eachParts calls f with many weights of parts: all small ones of up to 4 parts, and others.
func eachParts(f func(weights []int)) {
	for n := 1; n <= 4; n++ {
		eachList(n, 4, func(list []int) {
			if total(list) > 0 {
				f(slices.Clone(list))
			}
		})
	}
	for _, weights := range someParts {
		f(slices.Clone(weights))
	}
}

// eachSharing calls f with many totals and weights of parts.
func eachSharing(f func(sum int, weights []int)) {
	eachParts(func(weights []int) {
		for _, sum := range someTotals {
			f(sum, weights)
		}
	})
}

// eachWrongSharing calls f with totals and weights of which one is not valid.
func eachWrongSharing(f func(sum int, weights []int)) {
	for _, sum := range wrongTotals {
		f(sum, []int{1})
		f(sum, []int{2, 0, 1})
	}
	for _, weights := range wrongParts {
		f(0, weights)
		f(10, weights)
	}
}

// fairByHand tells what IsFair is to tell of shares by valid weights, by products alone.
func fairByHand(sum int, weights []int, shares []int) bool {
	all := total(weights)
	for i, w := range weights {
		if shares[i]*all <= sum*w-all || shares[i]*all >= sum*w+all {
			return false
		}
	}
	return total(shares) == sum
}

func TestP1ValidParts(t *testing.T) {
	eachParts(func(weights []int) {
		if !impl.ValidParts(weights) {
			t.Fatalf("ValidParts(%v) = false", weights)
		}
	})
	for _, weights := range wrongParts {
		if impl.ValidParts(weights) {
			t.Errorf("ValidParts(%v) = true", weights)
		}
	}
}

func TestP1OnePartMore(t *testing.T) {
	eachParts(func(weights []int) {
		for w := range impl.MaxWeight + 1 {
			want := len(weights) < impl.MaxParts
			if more := append(slices.Clone(weights), w); impl.ValidParts(more) != want {
				t.Fatalf("ValidParts(%v) = %v", more, !want)
			}
		}
	})
}

// restsByHand returns what ShareByRest is to return: what is left is given one by one.
func restsByHand(sum int, weights []int) []int {
	all := total(weights)
	var shares, rests []int
	for _, w := range weights {
		shares = append(shares, sum*w/all)
		rests = append(rests, sum*w%all)
	}
	for total(shares) < sum {
		i := slices.Index(rests, slices.Max(rests))
		shares[i]++
		rests[i] = -1
	}
	return shares
}

func TestP2ShareByRest(t *testing.T) {
	for _, c := range []struct {
		sum           int
		weights, want []int
	}{
		{0, []int{1}, []int{0}},
		{0, []int{3, 0, 4}, []int{0, 0, 0}},
		{9, []int{7}, []int{9}},
		{impl.MaxAmount, []int{impl.MaxWeight}, []int{impl.MaxAmount}},
		{100, []int{3, 0, 4}, []int{43, 0, 57}},
		{1, []int{0, 0, 2}, []int{0, 0, 1}},
		{7, []int{5, 3, 2}, []int{4, 2, 1}},
		{10, []int{1, 1, 1}, []int{4, 3, 3}},
		{11, []int{1, 1, 1}, []int{4, 4, 3}},
		{5, []int{1, 2, 3, 4}, []int{1, 1, 1, 2}},
		{impl.MaxAmount, repeated(impl.MaxWeight, impl.MaxParts), repeated(impl.MaxAmount/impl.MaxParts, impl.MaxParts)},
	} {
		if got := impl.ShareByRest(c.sum, c.weights); !slices.Equal(got, c.want) {
			t.Errorf("ShareByRest(%d, %v) = %v, not %v", c.sum, c.weights, got, c.want)
		}
	}
	eachSharing(func(sum int, weights []int) {
		if got, want := impl.ShareByRest(sum, weights), restsByHand(sum, weights); !slices.Equal(got, want) {
			t.Fatalf("ShareByRest(%d, %v) = %v, not %v", sum, weights, got, want)
		}
	})
	eachWrongSharing(func(sum int, weights []int) {
		if got := impl.ShareByRest(sum, weights); got != nil {
			t.Errorf("ShareByRest(%d, %v) = %v", sum, weights, got)
		}
	})
}

func TestP2SharesByRestAreFair(t *testing.T) {
	eachSharing(func(sum int, weights []int) {
		shares := impl.ShareByRest(sum, weights)
		if len(shares) != len(weights) || !impl.IsFair(sum, weights, shares) {
			t.Fatalf("ShareByRest(%d, %v) = %v is not fair", sum, weights, shares)
		}
		for i := range weights {
			for j := range weights {
				if weights[i] > weights[j] && shares[i] < shares[j] {
					t.Fatalf("ShareByRest(%d, %v) = %v: less for more weight", sum, weights, shares)
				}
			}
		}
	})
}

// sumsByHand returns what ShareBySums is to return, by the sums of the shares.
func sumsByHand(sum int, weights []int) []int {
	var shares []int
	for i := range weights {
		exact := sum * total(weights[:i+1])
		upTo := 0
		for 2*(exact-upTo*total(weights)) >= total(weights) {
			upTo += max(1, (exact-upTo*total(weights))/total(weights))
		}
		shares = append(shares, upTo-total(shares))
	}
	return shares
}

func TestP3ShareBySums(t *testing.T) {
	for _, c := range []struct {
		sum           int
		weights, want []int
	}{
		{0, []int{1}, []int{0}},
		{0, []int{0, 5, 1}, []int{0, 0, 0}},
		{9, []int{7}, []int{9}},
		{impl.MaxAmount, []int{impl.MaxWeight}, []int{impl.MaxAmount}},
		{1, []int{1, 1}, []int{1, 0}},
		{3, []int{1, 1}, []int{2, 1}},
		{10, []int{1, 1, 1}, []int{3, 4, 3}},
		{7, []int{5, 3, 2}, []int{4, 2, 1}},
		{5, []int{0, 1, 0, 1, 0}, []int{0, 3, 0, 2, 0}},
		{4, repeated(1, impl.MaxParts), []int{1, 0, 1, 0, 1, 0, 1, 0}},
	} {
		if got := impl.ShareBySums(c.sum, c.weights); !slices.Equal(got, c.want) {
			t.Errorf("ShareBySums(%d, %v) = %v, not %v", c.sum, c.weights, got, c.want)
		}
	}
	eachSharing(func(sum int, weights []int) {
		if got, want := impl.ShareBySums(sum, weights), sumsByHand(sum, weights); !slices.Equal(got, want) {
			t.Fatalf("ShareBySums(%d, %v) = %v, not %v", sum, weights, got, want)
		}
	})
	eachWrongSharing(func(sum int, weights []int) {
		if got := impl.ShareBySums(sum, weights); got != nil {
			t.Errorf("ShareBySums(%d, %v) = %v", sum, weights, got)
		}
	})
}

func TestP3SharesBySumsAreFairAndPutTogether(t *testing.T) {
	together := func(list []int) []int {
		n := len(list)
		return append(slices.Clone(list[:n-2]), list[n-2]+list[n-1])
	}
	eachSharing(func(sum int, weights []int) {
		shares := impl.ShareBySums(sum, weights)
		if len(shares) != len(weights) || !impl.IsFair(sum, weights, shares) {
			t.Fatalf("ShareBySums(%d, %v) = %v is not fair", sum, weights, shares)
		}
		if len(weights) < 2 || !impl.ValidParts(together(weights)) {
			return
		}
		if got := impl.ShareBySums(sum, together(weights)); !slices.Equal(got, together(shares)) {
			t.Fatalf("ShareBySums(%d, %v) = %v, not %v", sum, together(weights), got, together(shares))
		}
	})
}

func TestP4SplitEven(t *testing.T) {
	for _, c := range []struct {
		sum, n int
		want   []int
	}{
		{0, 1, []int{0}},
		{0, 2, []int{0, 0}},
		{7, 1, []int{7}},
		{1, 3, []int{1, 0, 0}},
		{10, 4, []int{3, 3, 2, 2}},
		{impl.MaxAmount, 1, []int{impl.MaxAmount}},
		{impl.MaxAmount, 3, []int{33334, 33333, 33333}},
		{5, impl.MaxParts, []int{1, 1, 1, 1, 1, 0, 0, 0}},
	} {
		if got := impl.SplitEven(c.sum, c.n); !slices.Equal(got, c.want) {
			t.Errorf("SplitEven(%d, %d) = %v, not %v", c.sum, c.n, got, c.want)
		}
	}
	for _, n := range []int{0, -1, impl.MaxParts + 1, math.MinInt, math.MaxInt} {
		if got := impl.SplitEven(5, n); got != nil {
			t.Errorf("SplitEven(5, %d) = %v", n, got)
		}
	}
	for _, sum := range wrongTotals {
		if got := impl.SplitEven(sum, 2); got != nil {
			t.Errorf("SplitEven(%d, 2) = %v", sum, got)
		}
	}
}

func TestP4EvenSharesAreSharesOfEqualParts(t *testing.T) {
	for n := 1; n <= impl.MaxParts; n++ {
		for _, sum := range someTotals {
			even := impl.SplitEven(sum, n)
			for w := 1; w <= impl.MaxWeight; w++ {
				if got := impl.ShareByRest(sum, repeated(w, n)); len(even) != n || !slices.Equal(got, even) {
					t.Fatalf("SplitEven(%d, %d) = %v, but ShareByRest of weights %d = %v", sum, n, even, w, got)
				}
			}
		}
	}
}

func TestP5IsFair(t *testing.T) {
	for _, c := range []struct {
		sum             int
		weights, shares []int
		want            bool
	}{
		{0, []int{1}, []int{0}, true},
		{0, []int{1}, []int{1}, false},
		{0, []int{1, 1}, []int{1, -1}, false},
		{9, []int{7}, []int{9}, true},
		{impl.MaxAmount, []int{impl.MaxWeight}, []int{impl.MaxAmount}, true},
		{10, []int{1, 1, 1}, []int{3, 3, 4}, true},
		{10, []int{1, 1, 1}, []int{4, 3, 3}, true},
		{10, []int{1, 1, 1}, []int{2, 4, 4}, false},
		{10, []int{1, 1, 1}, []int{5, 3, 2}, false},
		{10, []int{1, 1, 1}, []int{3, 3, 3}, false},
		{10, []int{1, 1, 1}, []int{4, 4, 4}, false},
		{9, []int{1, 1, 1}, []int{3, 3, 3}, true},
		{9, []int{1, 1, 1}, []int{3, 2, 4}, false},
		{3, []int{0, 1, 1}, []int{0, 1, 2}, true},
		{3, []int{0, 1, 1}, []int{1, 1, 1}, false},
		{3, []int{1, 1}, []int{math.MaxInt, math.MinInt + 4}, false},
	} {
		if got := impl.IsFair(c.sum, c.weights, c.shares); got != c.want {
			t.Errorf("IsFair(%d, %v, %v) = %v", c.sum, c.weights, c.shares, got)
		}
	}
}

func TestP5IsFairOfOtherArguments(t *testing.T) {
	for _, shares := range [][]int{nil, {}, {10}, {5, 5, 0}, {4, 3, 3}} {
		if impl.IsFair(10, []int{1, 1}, shares) {
			t.Errorf("IsFair(10, {1, 1}, %v) = true", shares)
		}
	}
	eachWrongSharing(func(sum int, weights []int) {
		for _, shares := range [][]int{nil, append([]int{sum}, make([]int, max(0, len(weights)-1))...), make([]int, len(weights))} {
			if impl.IsFair(sum, weights, shares) {
				t.Errorf("IsFair(%d, %v, %v) = true", sum, weights, shares)
			}
		}
	})
}

func TestP5FairSharesAddUp(t *testing.T) {
	for n := 1; n <= 3; n++ {
		eachList(n, 3, func(weights []int) {
			if total(weights) == 0 {
				return
			}
			for sum := range 6 {
				eachList(n, 6, func(shares []int) {
					got := impl.IsFair(sum, weights, shares)
					if got != fairByHand(sum, weights, shares) {
						t.Fatalf("IsFair(%d, %v, %v) = %v", sum, weights, shares, got)
					}
					if got && total(shares) != sum {
						t.Fatalf("IsFair(%d, %v, %v), which do not add up", sum, weights, shares)
					}
					if got != impl.IsFair(sum, reversed(weights), reversed(shares)) {
						t.Fatalf("IsFair(%d, %v, %v) is not the same the other way round", sum, weights, shares)
					}
				})
			}
		})
	}
}

func TestC1ArgumentsAndResults(t *testing.T) {
	weights := []int{3, 0, 4, 9, 9}[:3]
	kept := slices.Clone(weights[:5])
	for _, share := range []func(int, []int) []int{impl.ShareByRest, impl.ShareBySums} {
		shares := append(share(100, weights), 1, 1)
		shares[0]++
		if !slices.Equal(weights[:5], kept) {
			t.Fatalf("the weights are %v", weights[:5])
		}
	}
	if shares := []int{43, 0, 57}; !impl.IsFair(100, weights, shares) || !slices.Equal(shares, []int{43, 0, 57}) {
		t.Errorf("the shares are %v", shares)
	}
	for range 2 {
		if got := impl.ShareByRest(100, weights); !slices.Equal(got, []int{43, 0, 57}) {
			t.Errorf("ShareByRest called again = %v", got)
		}
	}
}
