package tests

import (
	"math"
	"slices"
	"testing"

	"loop.example/sumsthatadd/impl"
)

// one is the rate of a money for itself.
var one = impl.Ratio{Up: 1, Down: 1}

// wrongRatios are ratios that are no rates.
var wrongRatios = []impl.Ratio{
	{},
	{Up: 0, Down: 1},
	{Up: 1, Down: 0},
	{Up: -1, Down: 1},
	{Up: 1, Down: -1},
	{Up: -1, Down: -1},
	{Up: 21, Down: 1},
	{Up: 1, Down: 21},
	{Up: 21, Down: 21},
	{Up: math.MinInt, Down: 1},
	{Up: 1, Down: math.MinInt},
	{Up: math.MaxInt, Down: 1},
	{Up: 1, Down: math.MaxInt},
}

// wrongRates are rows that are no rates, beside those that eachWrongRates makes.
var wrongRates = [][][]impl.Ratio{
	nil,
	{},
	{{}},
	{nil},
	{{one, one}},
	{{one}, {one}},
	{{one, one}, {one}},
	{{one}, {one, one}},
	{{one, one}, {}},
	{{one, one}, {one, one}, {one, one}},
	{{one, one, one}, {one, one, one}},
	{{one, one}, {one, one, one}},
	{{one, one, one}, {one, one, one}, {one, one}},
	{{one, one, one}, {one, one, one}, {one, one, one, one}},
}

// fraction returns a ratio.
func fraction(up int, down int) impl.Ratio {
	return impl.Ratio{Up: up, Down: down}
}

// ratesOf returns the rates of n moneys by a rule, 1 and 1 for each one itself.
func ratesOf(n int, rule func(from, to int) impl.Ratio) [][]impl.Ratio {
	rates := make([][]impl.Ratio, n)
	for from := range rates {
		rates[from] = make([]impl.Ratio, n)
		for to := range rates[from] {
			rates[from][to] = one
			if from != to {
				rates[from][to] = rule(from, to)
			}
		}
	}
	return rates
}

// sameRates returns rates that are all the same ratio.
func sameRates(n int, r impl.Ratio) [][]impl.Ratio {
	return ratesOf(n, func(int, int) impl.Ratio { return r })
}

// mixedRates returns rates of n moneys with numbers up to a greatest one.
func mixedRates(n int, most int, next func(below int) int) [][]impl.Ratio {
	return ratesOf(n, func(int, int) impl.Ratio { return fraction(1+next(most), 1+next(most)) })
}

// worthRates returns rates of moneys that are worth so much, which gain nowhere and lose nowhere.
func worthRates(worth ...int) [][]impl.Ratio {
	return ratesOf(len(worth), func(from, to int) impl.Ratio { return fraction(worth[from], worth[to]) })
}

// eachRates calls f with many rates: of one money, of 1 alone, closed ones, ones that gain, and others.
func eachRates(f func(rates [][]impl.Ratio)) {
	for n := 1; n <= 4; n++ {
		for _, r := range []impl.Ratio{one, fraction(20, 20), fraction(6, 4), fraction(20, 1), fraction(1, 20), fraction(19, 20), fraction(20, 19)} {
			f(sameRates(n, r))
		}
		for seed := range 300 {
			next := mixed(seed)
			f(mixedRates(n, 2, next))
			f(mixedRates(n, 5, next))
			f(mixedRates(n, 20, next))
			worth := []int{1 + next(20), 1 + next(20), 1 + next(20), 1 + next(20)}[:n]
			rates := worthRates(worth...)
			f(rates)
			// One of them a bit off, by which they gain or lose.
			changed := cloneRows(rates)
			if n > 1 {
				changed[0][n-1] = fraction(1+next(20), 1+next(20))
			}
			f(changed)
		}
	}
	eachList(4, 5, func(list []int) {
		f([][]impl.Ratio{{one, fraction(list[0]+1, list[1]+1)}, {fraction(list[2]+1, list[3]+1), one}})
	})
}

// eachWrongRates calls f with rows that are no rates: too many, of another form, and with one ratio that is no rate.
func eachWrongRates(f func(rates [][]impl.Ratio)) {
	for _, rates := range wrongRates {
		f(rates)
	}
	f(sameRates(5, one))
	f(sameRates(9, fraction(2, 3)))
	for n := 1; n <= 4; n++ {
		for at := range n * n {
			from, to := at/n, at%n
			bad := wrongRatios
			if from == to {
				bad = append([]impl.Ratio{fraction(2, 2), fraction(20, 20), fraction(1, 2), fraction(2, 1)}, bad...)
			}
			for _, r := range bad {
				rates := sameRates(n, fraction(3, 2))
				rates[from][to] = r
				f(rates)
			}
		}
	}
}

// withoutLast returns rates without the last money.
func withoutLast(rates [][]impl.Ratio) [][]impl.Ratio {
	out := cloneRows(rates[:len(rates)-1])
	for i := range out {
		out[i] = out[i][:len(out)]
	}
	return out
}

// lowest returns a ratio without a common factor, which is taken out factor by factor.
func lowest(r impl.Ratio) impl.Ratio {
	for factor := 2; factor <= min(r.Up, r.Down); factor++ {
		for r.Up%factor == 0 && r.Down%factor == 0 {
			r.Up /= factor
			r.Down /= factor
		}
	}
	return r
}

// isLess reports whether a ratio is less than another one.
func isLess(r impl.Ratio, other impl.Ratio) bool {
	return r.Up*other.Down < other.Up*r.Down
}

// eachTrip calls f with all lists of different ones of n moneys.
func eachTrip(n int, f func(moneys []int)) {
	var extend func(moneys []int)
	extend = func(moneys []int) {
		if len(moneys) > 0 {
			f(moneys)
		}
		for next := range n {
			if !slices.Contains(moneys, next) {
				extend(append(slices.Clone(moneys), next))
			}
		}
	}
	extend(nil)
}

// productOf returns the product of the rates from each money to the next one.
func productOf(rates [][]impl.Ratio, moneys ...int) impl.Ratio {
	product := one
	for i := 1; i < len(moneys); i++ {
		r := rates[moneys[i-1]][moneys[i]]
		product = fraction(product.Up*r.Up, product.Down*r.Down)
	}
	return product
}

// bestByHand returns what BestRate is to return of valid rates, looking at all ways.
func bestByHand(rates [][]impl.Ratio, a int, b int) impl.Ratio {
	best := fraction(0, 1)
	eachTrip(len(rates), func(moneys []int) {
		if product := productOf(rates, moneys...); moneys[0] == a && lastOf(moneys) == b && isLess(best, product) {
			best = product
		}
	})
	return lowest(best)
}

// gainByHand returns what GainOf is to return of valid rates, looking at all circles.
func gainByHand(rates [][]impl.Ratio) impl.Ratio {
	best := fraction(0, 1)
	eachTrip(len(rates), func(moneys []int) {
		if product := productOf(rates, append(moneys, moneys[0])...); len(moneys) > 1 && isLess(best, product) {
			best = product
		}
	})
	return lowest(best)
}

func TestC6Limits(t *testing.T) {
	if impl.MaxRate != 20 || impl.MaxMoneys != 4 || impl.MaxOffs != 4 || impl.MaxVoucher != 200 || impl.MaxVouchers != 8 || impl.MaxMonths != 12 || impl.MaxDesk != 20 {
		t.Errorf("the limits are %d, %d, %d, %d, %d, %d and %d", impl.MaxRate, impl.MaxMoneys, impl.MaxOffs, impl.MaxVoucher, impl.MaxVouchers, impl.MaxMonths, impl.MaxDesk)
	}
}

func TestP40ValidRates(t *testing.T) {
	eachRates(func(rates [][]impl.Ratio) {
		if !impl.ValidRates(rates) {
			t.Fatalf("ValidRates(%v) = false", rates)
		}
	})
	eachWrongRates(func(rates [][]impl.Ratio) {
		if impl.ValidRates(rates) {
			t.Errorf("ValidRates(%v) = true", rates)
		}
	})
	for n := range 7 {
		if got := impl.ValidRates(sameRates(n, one)); got != (1 <= n && n <= 4) {
			t.Errorf("ValidRates of %d moneys = %v", n, got)
		}
	}
	for up := -1; up <= 22; up++ {
		for down := -1; down <= 22; down++ {
			r := fraction(up, down)
			want := 1 <= up && up <= 20 && 1 <= down && down <= 20
			if got := impl.ValidRates([][]impl.Ratio{{one, one}, {r, one}}); got != want {
				t.Errorf("ValidRates with %v = %v", r, got)
			}
			if got := impl.ValidRates([][]impl.Ratio{{r}}); got != (r == one) {
				t.Errorf("ValidRates of one money with %v = %v", r, got)
			}
		}
	}
}

func TestP40RatesCanBeCut(t *testing.T) {
	eachRates(func(rates [][]impl.Ratio) {
		if got := impl.ValidRates(withoutLast(rates)); got != (len(rates) > 1) {
			t.Fatalf("ValidRates(%v) = %v, and %v are rates", withoutLast(rates), got, rates)
		}
	})
}

func TestP41BestRate(t *testing.T) {
	round := [][]impl.Ratio{
		{one, fraction(2, 1), fraction(1, 20), fraction(1, 20)},
		{fraction(1, 20), one, fraction(3, 1), fraction(1, 20)},
		{fraction(1, 20), fraction(1, 20), one, fraction(5, 1)},
		{fraction(7, 1), fraction(1, 20), fraction(1, 20), one},
	}
	for _, c := range []struct {
		rates [][]impl.Ratio
		a, b  int
		want  impl.Ratio
	}{
		// One money.
		{[][]impl.Ratio{{one}}, 0, 0, one},
		// Rates of 1.
		{sameRates(2, one), 0, 1, one},
		{sameRates(4, one), 3, 0, one},
		{sameRates(4, fraction(20, 20)), 1, 2, one},
		// Two moneys.
		{[][]impl.Ratio{{one, fraction(6, 4)}, {fraction(10, 20), one}}, 0, 1, fraction(3, 2)},
		{[][]impl.Ratio{{one, fraction(6, 4)}, {fraction(10, 20), one}}, 1, 0, fraction(1, 2)},
		// A way through all moneys, one through some, and the straight one.
		{round, 0, 3, fraction(30, 1)},
		{round, 0, 2, fraction(6, 1)},
		{round, 0, 1, fraction(2, 1)},
		{round, 1, 0, fraction(105, 1)},
		{round, 3, 2, fraction(42, 1)},
		{round, 2, 1, fraction(70, 1)},
		// From a money to itself there is no way round.
		{round, 0, 0, one},
		{round, 3, 3, one},
		{sameRates(4, fraction(20, 1)), 2, 2, one},
		// As much as may be, and as little.
		{sameRates(2, fraction(20, 1)), 0, 1, fraction(20, 1)},
		{sameRates(3, fraction(20, 1)), 0, 1, fraction(400, 1)},
		{sameRates(4, fraction(20, 1)), 0, 1, fraction(8000, 1)},
		{sameRates(4, fraction(20, 19)), 3, 1, fraction(8000, 6859)},
		{sameRates(4, fraction(1, 20)), 3, 1, fraction(1, 20)},
	} {
		if got, ok := impl.BestRate(c.rates, c.a, c.b); got != c.want || !ok {
			t.Errorf("BestRate(%v, %d, %d) = %v, %v, not %v", c.rates, c.a, c.b, got, ok, c.want)
		}
	}
}

func TestP41BestRateOfOtherArguments(t *testing.T) {
	look := func(rates [][]impl.Ratio, a int, b int) {
		if got, ok := impl.BestRate(rates, a, b); got != (impl.Ratio{}) || ok {
			t.Errorf("BestRate(%v, %d, %d) = %v, %v", rates, a, b, got, ok)
		}
	}
	eachWrongRates(func(rates [][]impl.Ratio) {
		look(rates, 0, 0)
		look(rates, 0, 1)
		look(rates, 1, 0)
		look(rates, -1, -1)
	})
	for n := 1; n <= 4; n++ {
		for _, wrong := range []int{-1, n, n + 1, math.MinInt, math.MaxInt} {
			look(sameRates(n, fraction(2, 3)), wrong, 0)
			look(sameRates(n, fraction(2, 3)), n-1, wrong)
			look(sameRates(n, fraction(2, 3)), wrong, wrong)
		}
	}
}

func TestP41BestRatesAreAtLeastTheRates(t *testing.T) {
	eachRates(func(rates [][]impl.Ratio) {
		for a := range rates {
			for b := range rates {
				got, ok := impl.BestRate(rates, a, b)
				if want := bestByHand(rates, a, b); got != want || !ok {
					t.Fatalf("BestRate(%v, %d, %d) = %v, %v, not %v", rates, a, b, got, ok, want)
				}
				if isLess(got, rates[a][b]) || got != lowest(got) {
					t.Fatalf("BestRate(%v, %d, %d) = %v", rates, a, b, got)
				}
			}
		}
	})
}

func TestP42GainOf(t *testing.T) {
	for _, c := range []struct {
		rates [][]impl.Ratio
		want  impl.Ratio
	}{
		{sameRates(2, one), one},
		{sameRates(4, one), one},
		{sameRates(3, fraction(20, 20)), one},
		{worthRates(6, 4), one},
		{worthRates(20, 19, 7, 1), one},
		{[][]impl.Ratio{{one, fraction(2, 1)}, {fraction(1, 3), one}}, fraction(2, 3)},
		{[][]impl.Ratio{{one, fraction(3, 2)}, {fraction(4, 5), one}}, fraction(6, 5)},
		{sameRates(2, fraction(20, 1)), fraction(400, 1)},
		{sameRates(3, fraction(20, 1)), fraction(8000, 1)},
		{sameRates(4, fraction(20, 1)), fraction(160000, 1)},
		{sameRates(4, fraction(20, 19)), fraction(160000, 130321)},
		// Of rates that lose all the shortest circle is the best.
		{sameRates(2, fraction(1, 20)), fraction(1, 400)},
		{sameRates(4, fraction(1, 20)), fraction(1, 400)},
		{sameRates(4, fraction(19, 20)), fraction(361, 400)},
		// Only one circle gains: of the last two, of the last three, of all, and in one direction.
		{ratesOf(4, func(from, to int) impl.Ratio {
			if from+to == 5 {
				return fraction(3, 2)
			}
			return fraction(1, 20)
		}), fraction(9, 4)},
		{[][]impl.Ratio{{one, fraction(1, 9), fraction(1, 9), fraction(1, 9)}, {fraction(1, 9), one, fraction(2, 1), fraction(1, 9)}, {fraction(1, 9), fraction(1, 9), one, fraction(2, 1)}, {fraction(1, 9), fraction(3, 2), fraction(1, 9), one}}, fraction(6, 1)},
		{ratesOf(4, func(from, to int) impl.Ratio {
			if to == (from+3)%4 {
				return fraction(5, 4)
			}
			return fraction(1, 20)
		}), fraction(625, 256)},
		{[][]impl.Ratio{{one, fraction(2, 1), fraction(3, 1)}, {fraction(1, 2), one, fraction(2, 1)}, {fraction(1, 3), fraction(1, 2), one}}, fraction(4, 3)},
	} {
		if got, ok := impl.GainOf(c.rates); got != c.want || !ok {
			t.Errorf("GainOf(%v) = %v, %v, not %v", c.rates, got, ok, c.want)
		}
	}
	look := func(rates [][]impl.Ratio) {
		if got, ok := impl.GainOf(rates); got != (impl.Ratio{}) || ok {
			t.Errorf("GainOf(%v) = %v, %v", rates, got, ok)
		}
	}
	look([][]impl.Ratio{{one}})
	eachWrongRates(look)
}

func TestP42GainsAreAtLeastThoseThereAndBack(t *testing.T) {
	eachRates(func(rates [][]impl.Ratio) {
		got, ok := impl.GainOf(rates)
		if len(rates) == 1 {
			if got != (impl.Ratio{}) || ok {
				t.Fatalf("GainOf(%v) = %v, %v", rates, got, ok)
			}
			return
		}
		if want := gainByHand(rates); got != want || !ok {
			t.Fatalf("GainOf(%v) = %v, %v, not %v", rates, got, ok, want)
		}
		for a := range rates {
			for b := range a {
				if isLess(got, productOf(rates, a, b, a)) {
					t.Fatalf("GainOf(%v) = %v, and from %d to %d and back it is more", rates, got, a, b)
				}
			}
		}
	})
}

func TestP43IsClosed(t *testing.T) {
	for _, c := range []struct {
		rates [][]impl.Ratio
		want  bool
	}{
		{[][]impl.Ratio{{one}}, true},
		{sameRates(2, one), true},
		{sameRates(4, one), true},
		{sameRates(4, fraction(20, 20)), true},
		{sameRates(4, fraction(19, 20)), true},
		{sameRates(4, fraction(1, 20)), true},
		{sameRates(2, fraction(20, 19)), false},
		{sameRates(4, fraction(20, 1)), false},
		{worthRates(20, 1), true},
		{worthRates(20, 19, 7, 1), true},
		// A bit less than 1, and a bit more.
		{[][]impl.Ratio{{one, fraction(20, 19)}, {fraction(18, 19), one}}, true},
		{[][]impl.Ratio{{one, fraction(20, 19)}, {fraction(19, 20), one}}, true},
		{[][]impl.Ratio{{one, fraction(20, 19)}, {fraction(20, 20), one}}, false},
		{[][]impl.Ratio{{one, fraction(19, 18)}, {fraction(18, 19), one}}, true},
		{[][]impl.Ratio{{one, fraction(19, 18)}, {fraction(19, 20), one}}, false},
		// There and back nothing gains, but round.
		{[][]impl.Ratio{{one, fraction(2, 1), fraction(3, 1)}, {fraction(1, 2), one, fraction(2, 1)}, {fraction(1, 3), fraction(1, 2), one}}, false},
		{[][]impl.Ratio{{one, fraction(2, 1), fraction(3, 1)}, {fraction(1, 2), one, fraction(2, 1)}, {fraction(1, 4), fraction(1, 2), one}}, true},
	} {
		if got := impl.IsClosed(c.rates); got != c.want {
			t.Errorf("IsClosed(%v) = %v", c.rates, got)
		}
	}
	eachWrongRates(func(rates [][]impl.Ratio) {
		if impl.IsClosed(rates) {
			t.Errorf("IsClosed(%v) = true", rates)
		}
	})
}

func TestP43ClosedRatesGainNowhere(t *testing.T) {
	closed := 0
	eachRates(func(rates [][]impl.Ratio) {
		want := true
		for a := range rates {
			for b := range rates {
				there, _ := impl.BestRate(rates, a, b)
				back, _ := impl.BestRate(rates, b, a)
				want = want && there.Up*back.Up <= there.Down*back.Down
			}
		}
		got := impl.IsClosed(rates)
		if got != want || got != (len(rates) == 1 || !isLess(one, gainByHand(rates))) {
			t.Fatalf("IsClosed(%v) = %v", rates, got)
		}
		if got && len(rates) > 2 {
			closed++
		}
	})
	if closed < 300 {
		t.Errorf("only %d rates of more than two moneys are closed", closed)
	}
}

func TestP44Exchange(t *testing.T) {
	for _, c := range []struct {
		amount int
		r      impl.Ratio
		want   int
	}{
		{10, fraction(2, 3), 6},
		{10, fraction(3, 2), 15},
		{1, fraction(1, 2), 0},
		{19, fraction(1, 20), 0},
		{20, fraction(1, 20), 1},
		{39, fraction(1, 20), 1},
		{7, fraction(6, 4), 10},
		{0, one, 0},
		{0, fraction(20, 1), 0},
		{1, one, 1},
		{5, fraction(20, 20), 5},
		{100000, one, 100000},
		{100000, fraction(20, 1), 2000000},
		{100000, fraction(1, 20), 5000},
		{99999, fraction(19, 20), 94999},
	} {
		if got := impl.Exchange(c.amount, c.r); got != c.want {
			t.Errorf("Exchange(%d, %v) = %d, not %d", c.amount, c.r, got, c.want)
		}
	}
	look := func(amount int, r impl.Ratio) {
		if got := impl.Exchange(amount, r); got != -1 {
			t.Errorf("Exchange(%d, %v) = %d", amount, r, got)
		}
	}
	for _, amount := range []int{-1, 100001, math.MinInt, math.MaxInt} {
		look(amount, one)
		look(amount, fraction(1, 20))
		look(amount, impl.Ratio{})
	}
	for _, r := range wrongRatios {
		look(0, r)
		look(1, r)
		look(100000, r)
	}
}

func TestP44ExchangedBackThereIsNoMore(t *testing.T) {
	for _, amount := range []int{0, 1, 2, 3, 7, 19, 20, 21, 99, 100, 4999, 5000, 5001, 33333, 99999, 100000} {
		eachList(2, 19, func(list []int) {
			r := fraction(list[0]+1, list[1]+1)
			got := impl.Exchange(amount, r)
			if got*r.Down > amount*r.Up || (got+1)*r.Down <= amount*r.Up {
				t.Fatalf("Exchange(%d, %v) = %d", amount, r, got)
			}
			back := impl.Exchange(got, fraction(r.Down, r.Up))
			if back > amount || (back == -1) != (got > 100000) {
				t.Fatalf("Exchange(%d, %v) = %d, and back %d", amount, r, got, back)
			}
		})
	}
}

func TestC6RateArgumentsAndResults(t *testing.T) {
	rates := worthRates(2, 3, 5)
	rates[0] = append(rates[0], fraction(9, 9))[:3]
	rates = append(rates, []impl.Ratio{one})[:3]
	before := cloneRows(rates[:4])
	for range 2 {
		best, _ := impl.BestRate(rates, 0, 2)
		gain, _ := impl.GainOf(rates)
		if !impl.ValidRates(rates) || best != fraction(2, 5) || gain != one || !impl.IsClosed(rates) {
			t.Errorf("called again: %v, %v", best, gain)
		}
	}
	if !sameRows(rates[:4], before) || rates[0][:4][3] != fraction(9, 9) {
		t.Errorf("the rates are %v, and behind the first row is %v", rates[:4], rates[0][:4][3])
	}
}
