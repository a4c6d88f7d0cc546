package tests

import (
	"math"
	"slices"
	"testing"

	"loop.example/sumsthatadd/impl"
)

// somePairs are two incomes each with a sum that is an income, the limits among them.
var somePairs = [][2]int{
	{0, 0}, {0, 1}, {1, 1}, {1, 2}, {2, 5}, {0, 7}, {50, 201}, {99, 101}, {100, 100}, {100, 300}, {101, 300},
	{13, 487}, {299, 302}, {0, 1999}, {0, 2000}, {1, 1999}, {500, 1500}, {999, 1000}, {1000, 1000}, {998, 1002},
}

// wrongPairs are two numbers each that are no incomes, or have a sum that is none.
var wrongPairs = [][2]int{
	{-1, 0}, {-1, 1}, {-1, 2001}, {0, 2001}, {2001, -1}, {1, 2000}, {1000, 1001}, {2000, 2000}, {-5, 1000},
	{math.MinInt, 0}, {math.MaxInt, 0}, {math.MaxInt, 1}, {math.MaxInt, math.MaxInt}, {math.MinInt, math.MinInt}, {math.MaxInt, math.MinInt + 1},
}

func TestP13IsRising(t *testing.T) {
	for _, c := range []struct {
		rates []int
		want  bool
	}{
		{[]int{0}, true},
		{[]int{100}, true},
		{[]int{0, 100}, true},
		{[]int{100, 0}, false},
		{[]int{50, 50}, true},
		{[]int{50, 49}, false},
		{[]int{0, 0, 0, 0, 0}, true},
		{[]int{0, 1, 2, 3, 4}, true},
		{[]int{1, 0, 2, 3, 4}, false},
		{[]int{0, 2, 1, 3, 4}, false},
		{[]int{0, 1, 2, 4, 3}, false},
		{[]int{10, 30, 20}, false},
		{[]int{20, 10, 30}, false},
		{[]int{100, 100, 100, 100, 100}, true},
	} {
		steps := stepsOf([]int{0, 10, 20, 30, 40}[:len(c.rates)], c.rates)
		if got := impl.IsRising(steps); got != c.want {
			t.Errorf("IsRising(%v) = %v", steps, got)
		}
	}
	for _, steps := range wrongSteps {
		if impl.IsRising(steps) {
			t.Errorf("IsRising(%v) = true", steps)
		}
	}
	eachTax(func(steps []impl.Step) {
		want := slices.IsSortedFunc(steps, func(a, b impl.Step) int { return a.Rate - b.Rate })
		if got := impl.IsRising(steps); got != want {
			t.Fatalf("IsRising(%v) = %v", steps, got)
		}
	})
}

func TestP13TwoAreTaxedNoMoreTogetherByRisingRates(t *testing.T) {
	rising := 0
	look := func(steps []impl.Step, a, b int) {
		together, both := impl.PairTax(steps, a, b), impl.HundredTax(steps, a)+impl.HundredTax(steps, b)
		if together < 0 || together > both {
			t.Fatalf("PairTax(%v, %d, %d) = %d, and both are taxed %d", steps, a, b, together, both)
		}
	}
	eachTax(func(steps []impl.Step) {
		if !impl.IsRising(steps) {
			return
		}
		rising++
		for _, p := range somePairs {
			look(steps, p[0], p[1])
		}
		for a := 0; a <= 2000; a += 37 {
			for b := 0; a+b <= 2000; b += 53 {
				look(steps, a, b)
			}
		}
	})
	if rising < 20 {
		t.Errorf("only %d taxes are rising", rising)
	}
	if got := impl.PairTax(falling, 0, 200); got != 4000 || impl.HundredTax(falling, 200) != 3000 {
		t.Errorf("PairTax(%v, 0, 200) = %d", falling, got)
	}
}

func TestP14PairTax(t *testing.T) {
	for _, c := range []struct {
		steps      []impl.Step
		a, b, want int
	}{
		{nothing, 0, 0, 0},
		{nothing, 1000, 1000, 0},
		{everything, 0, 0, 0},
		{everything, 0, 1, 0},
		{everything, 1, 1, 200},
		{everything, 1, 2, 200},
		{everything, 2000, 0, 200000},
		{everything, 999, 1000, 199800},
		{common, 0, 0, 0},
		{common, 100, 100, 0},
		{common, 100, 101, 0},
		{common, 101, 101, 40},
		{common, 100, 300, 4000},
		{common, 0, 2000, 78000},
		{common, 1000, 1000, 78000},
		{falling, 50, 201, 4500},
		{[]impl.Step{{From: 0, Rate: 0}, {From: 1000, Rate: 10}}, 2000, 0, 0},
		{[]impl.Step{{From: 0, Rate: 0}, {From: 999, Rate: 10}}, 2000, 0, 20},
	} {
		if got := impl.PairTax(c.steps, c.a, c.b); got != c.want {
			t.Errorf("PairTax(%v, %d, %d) = %d, not %d", c.steps, c.a, c.b, got, c.want)
		}
	}
	for _, p := range wrongPairs {
		for _, steps := range [][]impl.Step{nothing, everything, common} {
			if got, back := impl.PairTax(steps, p[0], p[1]), impl.PairTax(steps, p[1], p[0]); got != -1 || back != -1 {
				t.Errorf("PairTax(%v, %d, %d) = %d, and the other way %d", steps, p[0], p[1], got, back)
			}
		}
	}
	for _, steps := range wrongSteps {
		for _, p := range somePairs {
			if got := impl.PairTax(steps, p[0], p[1]); got != -1 {
				t.Errorf("PairTax(%v, %d, %d) = %d", steps, p[0], p[1], got)
			}
		}
	}
}

func TestP14PairsGoBothWays(t *testing.T) {
	eachTax(func(steps []impl.Step) {
		taxes := taxesByHand(steps)
		for _, p := range somePairs {
			got, back := impl.PairTax(steps, p[0], p[1]), impl.PairTax(steps, p[1], p[0])
			if want := 2 * taxes[(p[0]+p[1])/2]; got != want || back != want {
				t.Fatalf("PairTax(%v, %d, %d) = %d, the other way %d, not %d", steps, p[0], p[1], got, back, want)
			}
		}
		for income := range 1001 {
			if got, want := impl.PairTax(steps, income, income), 2*impl.HundredTax(steps, income); got != want {
				t.Fatalf("PairTax(%v, %d, %d) = %d, not %d", steps, income, income, got, want)
			}
		}
	})
}

// joinedByHand returns what JoinSteps is to return, from the incomes from which steps begin.
func joinedByHand(a []impl.Step, b []impl.Step) ([]impl.Step, bool) {
	var froms []int
	for _, s := range slices.Concat(a, b) {
		froms = append(froms, s.From)
	}
	slices.Sort(froms)
	var joined []impl.Step
	for _, from := range slices.Compact(froms) {
		joined = append(joined, impl.Step{From: from, Rate: rateByHand(a, from) + rateByHand(b, from)})
	}
	joined = slices.CompactFunc(joined, func(s, next impl.Step) bool { return s.Rate == next.Rate })
	if len(joined) > 5 || slices.ContainsFunc(joined, func(s impl.Step) bool { return s.Rate > 100 }) {
		return nil, false
	}
	return joined, true
}

func TestP15JoinSteps(t *testing.T) {
	five := stepsOf([]int{0, 10, 20, 30, 40}, []int{1, 2, 3, 4, 5})
	for _, c := range []struct{ a, b, want []impl.Step }{
		{nothing, nothing, nothing},
		{nothing, everything, everything},
		{everything, nothing, everything},
		{everything, everything, nil},
		{everything, []impl.Step{{From: 0, Rate: 1}}, nil},
		{[]impl.Step{{From: 0, Rate: 99}}, []impl.Step{{From: 0, Rate: 1}}, everything},
		{everything, []impl.Step{{From: 0, Rate: 0}, {From: 2000, Rate: 1}}, nil},
		{everything, []impl.Step{{From: 0, Rate: 1}, {From: 1, Rate: 0}}, nil},
		{common, falling, stepsOf([]int{0, 100, 300}, []int{20, 30, 60})},
		{common, nothing, common},
		{common, []impl.Step{{From: 0, Rate: 50}}, stepsOf([]int{0, 100, 300}, []int{50, 70, 100})},
		{common, []impl.Step{{From: 0, Rate: 51}}, nil},
		{stepsOf([]int{0, 50}, []int{10, 20}), stepsOf([]int{0, 50}, []int{10, 0}), []impl.Step{{From: 0, Rate: 20}}},
		{stepsOf([]int{0, 50, 60}, []int{10, 20, 30}), stepsOf([]int{0, 50}, []int{10, 0}), stepsOf([]int{0, 60}, []int{20, 30})},
		{stepsOf([]int{0, 5}, []int{7, 7}), nothing, []impl.Step{{From: 0, Rate: 7}}},
		{stepsOf([]int{0, 2000}, []int{1, 2}), stepsOf([]int{0, 1999}, []int{1, 2}), stepsOf([]int{0, 1999, 2000}, []int{2, 3, 4})},
		{five, nothing, five},
		{five, five, stepsOf([]int{0, 10, 20, 30, 40}, []int{2, 4, 6, 8, 10})},
		{five, stepsOf([]int{0, 40}, []int{0, 1}), stepsOf([]int{0, 10, 20, 30, 40}, []int{1, 2, 3, 4, 6})},
		{five, stepsOf([]int{0, 41}, []int{0, 1}), nil},
		{five, stepsOf([]int{0, 15}, []int{0, 1}), nil},
		{five, stepsOf([]int{0, 41}, []int{3, 3}), stepsOf([]int{0, 10, 20, 30, 40}, []int{4, 5, 6, 7, 8})},
		{five, stepsOf([]int{0, 10, 15}, []int{1, 0, 1}), stepsOf([]int{0, 15, 20, 30, 40}, []int{2, 3, 4, 5, 6})},
		{stepsOf([]int{0, 1, 2}, []int{0, 1, 2}), stepsOf([]int{0, 3, 4}, []int{0, 1, 2}), stepsOf([]int{0, 1, 2, 3, 4}, []int{0, 1, 2, 3, 4})},
		{stepsOf([]int{0, 1, 2}, []int{0, 1, 2}), stepsOf([]int{0, 3, 4, 5}, []int{0, 1, 2, 3}), nil},
	} {
		for _, sides := range [][2][]impl.Step{{c.a, c.b}, {c.b, c.a}} {
			if got, ok := impl.JoinSteps(sides[0], sides[1]); !slices.Equal(got, c.want) || ok != (c.want != nil) {
				t.Errorf("JoinSteps(%v, %v) = %v, %v, not %v", sides[0], sides[1], got, ok, c.want)
			}
		}
	}
	for _, steps := range wrongSteps {
		for _, sides := range [][2][]impl.Step{{steps, nothing}, {nothing, steps}, {steps, common}, {common, steps}, {steps, steps}} {
			if got, ok := impl.JoinSteps(sides[0], sides[1]); got != nil || ok {
				t.Errorf("JoinSteps(%v, %v) = %v, %v", sides[0], sides[1], got, ok)
			}
		}
	}
}

func TestP15TwoTaxesAreOne(t *testing.T) {
	var taxes [][]impl.Step
	eachTax(func(steps []impl.Step) { taxes = append(taxes, steps) })
	joined := 0
	for _, a := range taxes {
		for _, b := range taxes {
			got, ok := impl.JoinSteps(a, b)
			if want, wantOk := joinedByHand(a, b); ok != wantOk || !slices.Equal(got, want) {
				t.Fatalf("JoinSteps(%v, %v) = %v, %v, not %v, %v", a, b, got, ok, want, wantOk)
			}
			if !ok {
				continue
			}
			joined++
			lookAtJoined(t, a, b, got)
		}
	}
	if joined < 1000 {
		t.Errorf("only %d pairs of taxes are joined", joined)
	}
}

// lookAtJoined checks what promise 15 says of two taxes and of both together.
func lookAtJoined(t *testing.T, a []impl.Step, b []impl.Step, joined []impl.Step) {
	if !impl.ValidSteps(joined) {
		t.Fatalf("JoinSteps(%v, %v) = %v are not valid", a, b, joined)
	}
	for i, s := range joined[1:] {
		if s.Rate == joined[i].Rate {
			t.Fatalf("JoinSteps(%v, %v) = %v with the same rate again", a, b, joined)
		}
	}
	for _, income := range []int{0, 1, 2, 3, 8, 99, 100, 101, 450, 999, 1000, 1001, 1234, 1997, 1998, 1999, 2000} {
		got, want := impl.HundredTax(joined, income), impl.HundredTax(a, income)+impl.HundredTax(b, income)
		if got != want {
			t.Fatalf("HundredTax of %d by JoinSteps(%v, %v) = %v is %d, not %d", income, a, b, joined, got, want)
		}
	}
}

func TestC2ArgumentsAndResults(t *testing.T) {
	a, b := slices.Grow(slices.Clone(common), 4), slices.Grow(slices.Clone(nothing), 4)
	joined, _ := impl.JoinSteps(a, b)
	again, _ := impl.JoinSteps(b, a)
	joined[0].Rate = 77
	joined = append(joined, impl.Step{From: 9, Rate: 9})
	for _, steps := range [][]impl.Step{a, again} {
		if !slices.Equal(steps, common) || slices.ContainsFunc(steps[:cap(steps)][len(steps):], func(s impl.Step) bool { return s != impl.Step{} }) {
			t.Errorf("JoinSteps shares memory: %v of %v", joined, steps[:cap(steps)])
		}
	}
	for range 2 {
		impl.ValidSteps(a)
		impl.IsRising(a)
		if tax, net, rate, pair := impl.HundredTax(a, 301), impl.NetOf(a, 301), impl.RateAt(a, 301), impl.PairTax(a, 301, 301); tax != 4050 || net != 261 || rate != 50 || pair != 8100 {
			t.Errorf("called again: %d, %d, %d, %d", tax, net, rate, pair)
		}
		if gross, ok := impl.GrossFor(a, 261); gross != 301 || !ok {
			t.Errorf("called again: %d, %v", gross, ok)
		}
	}
	if !slices.Equal(a, common) || !slices.Equal(b, nothing) {
		t.Errorf("the steps are %v and %v", a, b)
	}
}
