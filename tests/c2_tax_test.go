package tests

import (
	"math"
	"slices"
	"testing"

	"loop.example/sumsthatadd/impl"
)

// common is a tax with a first step that takes nothing.
var common = []impl.Step{{From: 0, Rate: 0}, {From: 100, Rate: 20}, {From: 300, Rate: 50}}

// falling is a tax with a rate less than the one ahead.
var falling = []impl.Step{{From: 0, Rate: 20}, {From: 100, Rate: 10}}

// nothing and everything are taxes of one step.
var nothing, everything = []impl.Step{{From: 0, Rate: 0}}, []impl.Step{{From: 0, Rate: 100}}

// someFroms are where the steps begin of the taxes that eachTax takes.
var someFroms = [][]int{
	{0},
	{0, 1},
	{0, 7},
	{0, 999},
	{0, 1999},
	{0, 2000},
	{0, 1, 2},
	{0, 100, 300},
	{0, 1000, 1001},
	{0, 1999, 2000},
	{0, 13, 500, 1500},
	{0, 1, 2, 3, 4},
	{0, 400, 800, 1200, 1600},
	{0, 1997, 1998, 1999, 2000},
}

// someRates are the rates of the steps of these taxes, in turn.
var someRates = [][]int{
	{0},
	{1},
	{100},
	{0, 100},
	{100, 0},
	{50, 50, 1},
	{0, 20, 50},
	{10, 15, 15, 40, 99},
	{99, 37, 33, 33, 2},
	{100, 0, 0, 100, 1},
	{0, 1, 2, 3, 4},
}

// wrongSteps are lists that are no steps of a tax.
var wrongSteps = [][]impl.Step{
	nil,
	{},
	{{From: 1, Rate: 10}},
	{{From: -1, Rate: 10}},
	{{From: 2000, Rate: 10}},
	{{From: 0, Rate: -1}},
	{{From: 0, Rate: 101}},
	{{From: 0, Rate: math.MaxInt}},
	{{From: 0, Rate: math.MinInt}},
	{{From: 0, Rate: 10}, {From: 5, Rate: 101}},
	{{From: 0, Rate: 10}, {From: 5, Rate: -1}},
	{{From: 0, Rate: 101}, {From: 5, Rate: 10}},
	{{From: 0, Rate: 10}, {From: 0, Rate: 20}},
	{{From: 0, Rate: 10}, {From: -1, Rate: 20}},
	{{From: 0, Rate: 10}, {From: 2001, Rate: 20}},
	{{From: 0, Rate: 10}, {From: math.MaxInt, Rate: 20}},
	{{From: 0, Rate: 10}, {From: math.MinInt, Rate: 20}},
	{{From: 0, Rate: 10}, {From: 5, Rate: 20}, {From: 5, Rate: 30}},
	{{From: 0, Rate: 10}, {From: 5, Rate: 20}, {From: 4, Rate: 30}},
	{{From: 0, Rate: 10}, {From: 2000, Rate: 20}, {From: 2001, Rate: 30}},
	{{From: 5, Rate: 10}, {From: 0, Rate: 20}},
	{{From: 0, Rate: 1}, {From: 1, Rate: 2}, {From: 2, Rate: 3}, {From: 3, Rate: 4}, {From: 4, Rate: 5}, {From: 5, Rate: 6}},
}

// wrongIncomes are numbers that are no incomes.
var wrongIncomes = []int{-1, 2001, math.MinInt, math.MaxInt}

// stepsOf returns steps from incomes on, by rates in turn.
func stepsOf(froms []int, rates []int) []impl.Step {
	var steps []impl.Step
	for i, from := range froms {
		steps = append(steps, impl.Step{From: from, Rate: rates[i%len(rates)]})
	}
	return steps
}

// eachTax calls f with the steps of many taxes.
func eachTax(f func(steps []impl.Step)) {
	for _, froms := range someFroms {
		for _, rates := range someRates {
			f(stepsOf(froms, rates))
		}
	}
}

// eachWrongTaxing calls f with steps and incomes of which one is not valid.
func eachWrongTaxing(f func(steps []impl.Step, income int)) {
	for _, income := range wrongIncomes {
		f(nothing, income)
		f(common, income)
	}
	for _, steps := range wrongSteps {
		for _, income := range []int{0, 3, 2000} {
			f(steps, income)
		}
	}
}

// rateByHand returns the rate of what one more than the income has more.
func rateByHand(steps []impl.Step, income int) int {
	for _, s := range slices.Backward(steps) {
		if s.From <= income {
			return s.Rate
		}
	}
	return -1
}

// taxesByHand returns a hundred times the tax of each income, one after the other taxed.
func taxesByHand(steps []impl.Step) []int {
	taxes := []int{0}
	for income := range 2000 {
		taxes = append(taxes, taxes[income]+rateByHand(steps, income))
	}
	return taxes
}

// netsByHand returns what is left of each income.
func netsByHand(steps []impl.Step) []int {
	var nets []int
	for income, hundredTax := range taxesByHand(steps) {
		nets = append(nets, income-hundredTax/100)
	}
	return nets
}

func TestC2Limits(t *testing.T) {
	if impl.MaxIncome != 2000 || impl.MaxSteps != 5 {
		t.Errorf("the limits are %d and %d", impl.MaxIncome, impl.MaxSteps)
	}
}

func TestP8ValidSteps(t *testing.T) {
	eachTax(func(steps []impl.Step) {
		if !impl.ValidSteps(steps) {
			t.Fatalf("ValidSteps(%v) = false", steps)
		}
	})
	for _, steps := range wrongSteps {
		if impl.ValidSteps(steps) {
			t.Errorf("ValidSteps(%v) = true", steps)
		}
	}
	for n := -3; n <= 2003; n++ {
		if got := impl.ValidSteps([]impl.Step{{From: 0, Rate: n}}); got != (0 <= n && n <= 100) {
			t.Errorf("ValidSteps of one step with the rate %d = %v", n, got)
		}
		if got := impl.ValidSteps([]impl.Step{{From: n, Rate: 1}}); got != (n == 0) {
			t.Errorf("ValidSteps of one step from %d = %v", n, got)
		}
		if got := impl.ValidSteps([]impl.Step{{From: 0, Rate: 1}, {From: n, Rate: 1}}); got != (1 <= n && n <= 2000) {
			t.Errorf("ValidSteps of a second step from %d = %v", n, got)
		}
	}
}

func TestP8StepsCanBeCut(t *testing.T) {
	eachTax(func(steps []impl.Step) {
		for n := range steps {
			if got := impl.ValidSteps(steps[:n]); got != (n > 0) {
				t.Fatalf("ValidSteps(%v) = %v", steps[:n], got)
			}
		}
		last := steps[len(steps)-1].From
		for from := last - 1; from <= 2001; from++ {
			want := len(steps) < 5 && last < from && from <= 2000
			if more := append(slices.Clone(steps), impl.Step{From: from, Rate: 5}); impl.ValidSteps(more) != want {
				t.Fatalf("ValidSteps(%v) = %v", more, !want)
			}
		}
	})
}

func TestP9HundredTax(t *testing.T) {
	full := []impl.Step{{From: 0, Rate: 10}, {From: 500, Rate: 20}, {From: 1000, Rate: 30}, {From: 1500, Rate: 40}, {From: 2000, Rate: 50}}
	for _, c := range []struct {
		steps        []impl.Step
		income, want int
	}{
		{nothing, 0, 0},
		{nothing, 1, 0},
		{nothing, 2000, 0},
		{everything, 0, 0},
		{everything, 1, 100},
		{everything, 2000, 200000},
		{[]impl.Step{{From: 0, Rate: 7}}, 11, 77},
		{common, 0, 0},
		{common, 100, 0},
		{common, 101, 20},
		{common, 200, 2000},
		{common, 300, 4000},
		{common, 301, 4050},
		{common, 2000, 89000},
		{falling, 99, 1980},
		{falling, 100, 2000},
		{falling, 101, 2010},
		{full, 1, 10},
		{full, 500, 5000},
		{full, 501, 5020},
		{full, 1001, 15030},
		{full, 1999, 49960},
		{full, 2000, 50000},
	} {
		if got := impl.HundredTax(c.steps, c.income); got != c.want {
			t.Errorf("HundredTax(%v, %d) = %d, not %d", c.steps, c.income, got, c.want)
		}
	}
	eachTax(func(steps []impl.Step) {
		for income, want := range taxesByHand(steps) {
			if got := impl.HundredTax(steps, income); got != want {
				t.Fatalf("HundredTax(%v, %d) = %d, not %d", steps, income, got, want)
			}
		}
	})
	eachWrongTaxing(func(steps []impl.Step, income int) {
		if got := impl.HundredTax(steps, income); got != -1 {
			t.Errorf("HundredTax(%v, %d) = %d", steps, income, got)
		}
	})
}

func TestP9OneMoreIsTaxedByTheRate(t *testing.T) {
	eachTax(func(steps []impl.Step) {
		for income := range 2000 {
			more := impl.HundredTax(steps, income+1) - impl.HundredTax(steps, income)
			if rate := impl.RateAt(steps, income); more != rate {
				t.Fatalf("HundredTax(%v, ..) of %d and of one more differ by %d, not %d", steps, income, more, rate)
			}
		}
	})
}

func TestP10NetOf(t *testing.T) {
	for _, c := range []struct {
		steps        []impl.Step
		income, want int
	}{
		{nothing, 0, 0},
		{nothing, 1, 1},
		{nothing, 2000, 2000},
		{everything, 0, 0},
		{everything, 1, 0},
		{everything, 2000, 0},
		{common, 0, 0},
		{common, 100, 100},
		{common, 104, 104},
		{common, 105, 104},
		{common, 200, 180},
		{common, 300, 260},
		{common, 301, 261},
		{common, 302, 261},
		{common, 2000, 1110},
		{[]impl.Step{{From: 0, Rate: 99}}, 1, 1},
		{[]impl.Step{{From: 0, Rate: 99}}, 2, 1},
		{[]impl.Step{{From: 0, Rate: 99}}, 100, 1},
		{[]impl.Step{{From: 0, Rate: 99}}, 101, 2},
		{[]impl.Step{{From: 0, Rate: 1}}, 99, 99},
		{[]impl.Step{{From: 0, Rate: 1}}, 100, 99},
	} {
		if got := impl.NetOf(c.steps, c.income); got != c.want {
			t.Errorf("NetOf(%v, %d) = %d, not %d", c.steps, c.income, got, c.want)
		}
	}
	eachTax(func(steps []impl.Step) {
		for income, want := range netsByHand(steps) {
			if got := impl.NetOf(steps, income); got != want {
				t.Fatalf("NetOf(%v, %d) = %d, not %d", steps, income, got, want)
			}
		}
	})
	eachWrongTaxing(func(steps []impl.Step, income int) {
		if got := impl.NetOf(steps, income); got != -1 {
			t.Errorf("NetOf(%v, %d) = %d", steps, income, got)
		}
	})
}

func TestP10MoreIncomeLeavesNoLess(t *testing.T) {
	eachTax(func(steps []impl.Step) {
		net := impl.NetOf(steps, 0)
		if net != 0 {
			t.Fatalf("NetOf(%v, 0) = %d", steps, net)
		}
		for income := 1; income <= 2000; income++ {
			next := impl.NetOf(steps, income)
			if next != net && next != net+1 || next > income {
				t.Fatalf("NetOf(%v, %d) = %d, and of one less %d", steps, income, next, net)
			}
			net = next
		}
	})
}

func TestP11GrossFor(t *testing.T) {
	for _, c := range []struct {
		steps        []impl.Step
		amount, want int
		ok           bool
	}{
		{nothing, 0, 0, true},
		{nothing, 1, 1, true},
		{nothing, 2000, 2000, true},
		{everything, 0, 0, true},
		{everything, 1, 0, false},
		{everything, 2000, 0, false},
		{common, 0, 0, true},
		{common, 100, 100, true},
		{common, 104, 104, true},
		{common, 105, 106, true},
		{common, 261, 301, true},
		{common, 262, 303, true},
		{common, 1110, 1999, true},
		{common, 1111, 0, false},
		{common, 2000, 0, false},
		{[]impl.Step{{From: 0, Rate: 99}}, 1, 1, true},
		{[]impl.Step{{From: 0, Rate: 99}}, 2, 101, true},
		{[]impl.Step{{From: 0, Rate: 0}, {From: 2000, Rate: 100}}, 2000, 2000, true},
	} {
		if got, ok := impl.GrossFor(c.steps, c.amount); got != c.want || ok != c.ok {
			t.Errorf("GrossFor(%v, %d) = %d, %v, not %d, %v", c.steps, c.amount, got, ok, c.want, c.ok)
		}
	}
	eachWrongTaxing(func(steps []impl.Step, amount int) {
		if got, ok := impl.GrossFor(steps, amount); got != 0 || ok {
			t.Errorf("GrossFor(%v, %d) = %d, %v", steps, amount, got, ok)
		}
	})
}

func TestP11TheLeastIncomeIsEnough(t *testing.T) {
	amounts := []int{0, 1, 2, 3, 19, 20, 21, 99, 100, 101, 499, 777, 1000, 1001, 1500, 1999, 2000}
	eachTax(func(steps []impl.Step) {
		nets := netsByHand(steps)
		most := slices.Max(nets)
		for _, amount := range append(slices.Clone(amounts), most, min(most+1, 2000)) {
			got, ok := impl.GrossFor(steps, amount)
			if ok != (amount <= most) || !ok && got != 0 {
				t.Fatalf("GrossFor(%v, %d) = %d, %v", steps, amount, got, ok)
			}
			if ok && impl.NetOf(steps, got) < amount {
				t.Fatalf("GrossFor(%v, %d) = %d, of which less is left", steps, amount, got)
			}
			if ok && got > 0 && impl.NetOf(steps, got-1) >= amount {
				t.Fatalf("GrossFor(%v, %d) = %d, and of one less enough is left", steps, amount, got)
			}
			if want := slices.IndexFunc(nets, func(net int) bool { return net >= amount }); ok && got != want {
				t.Fatalf("GrossFor(%v, %d) = %d, not %d", steps, amount, got, want)
			}
		}
	})
}

func TestP12RateAt(t *testing.T) {
	late := []impl.Step{{From: 0, Rate: 3}, {From: 1, Rate: 4}, {From: 1999, Rate: 5}, {From: 2000, Rate: 6}}
	for _, c := range []struct {
		steps        []impl.Step
		income, want int
	}{
		{nothing, 0, 0},
		{nothing, 2000, 0},
		{everything, 0, 100},
		{everything, 2000, 100},
		{common, 0, 0},
		{common, 99, 0},
		{common, 100, 20},
		{common, 101, 20},
		{common, 299, 20},
		{common, 300, 50},
		{common, 2000, 50},
		{falling, 99, 20},
		{falling, 100, 10},
		{late, 0, 3},
		{late, 1, 4},
		{late, 1998, 4},
		{late, 1999, 5},
		{late, 2000, 6},
	} {
		if got := impl.RateAt(c.steps, c.income); got != c.want {
			t.Errorf("RateAt(%v, %d) = %d, not %d", c.steps, c.income, got, c.want)
		}
	}
	eachWrongTaxing(func(steps []impl.Step, income int) {
		if got := impl.RateAt(steps, income); got != -1 {
			t.Errorf("RateAt(%v, %d) = %d", steps, income, got)
		}
	})
}

func TestP12RatesAreThoseOfSteps(t *testing.T) {
	eachTax(func(steps []impl.Step) {
		if got := impl.RateAt(steps, 0); got != steps[0].Rate {
			t.Fatalf("RateAt(%v, 0) = %d", steps, got)
		}
		for income := range 2001 {
			got := impl.RateAt(steps, income)
			if !slices.ContainsFunc(steps, func(s impl.Step) bool { return s.Rate == got }) {
				t.Fatalf("RateAt(%v, %d) = %d, of no step", steps, income, got)
			}
			if want := rateByHand(steps, income); got != want {
				t.Fatalf("RateAt(%v, %d) = %d, not %d", steps, income, got, want)
			}
		}
	})
}
