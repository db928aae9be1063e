package num_test

import (
	"math"
	"math/big"
	"testing"

	"paternoster/api"
	"paternoster/num"
)

const limit = api.Limit

// edges has numbers about 0, about the limit and its roots, and at an int's ends, each with both signs.
func edges() []int {
	list := []int{0, math.MinInt, math.MinInt + 1}
	for _, n := range []int{
		1, 2, 3, 7, 255,
		1<<20 - 1, 1 << 20, 1<<20 + 1, 1<<21 + 5,
		limit/3 - 1, limit / 3, limit/3 + 1, limit/2 - 1, limit / 2, limit/2 + 1,
		limit - 1, limit, limit + 1, 2 * limit,
		1 << 62, math.MaxInt,
	} {
		list = append(list, n, -n)
	}
	return list
}

// cut is what 'within the limit' says, of numbers without end.
func cut(n *big.Int) *big.Int {
	top := big.NewInt(limit)
	low := big.NewInt(-limit)
	if n.Cmp(top) > 0 {
		return top
	}
	if n.Cmp(low) < 0 {
		return low
	}
	return n
}

// reckon works a pair out by numbers without end.
func reckon(how func(z, x, y *big.Int) *big.Int, a, b int) int {
	x, y := cut(big.NewInt(int64(a))), cut(big.NewInt(int64(b)))
	return int(cut(how(new(big.Int), x, y)).Int64())
}

// TestPairs: P1.1, and P1 and P2 of Add, Sub, Mul.
func TestPairs(t *testing.T) {
	for _, c := range []struct {
		name string
		call func(a, b int) int
		how  func(z, x, y *big.Int) *big.Int
	}{
		{"Add", num.Add, (*big.Int).Add},
		{"Sub", num.Sub, (*big.Int).Sub},
		{"Mul", num.Mul, (*big.Int).Mul},
	} {
		for _, a := range edges() {
			for _, b := range edges() {
				got, want := c.call(a, b), reckon(c.how, a, b)
				if got != want {
					t.Errorf("%s(%d, %d) is %d, not %d", c.name, a, b, got, want)
				}
				if again := c.call(a, b); again != got {
					t.Errorf("%s(%d, %d) is %d, then %d", c.name, a, b, got, again)
				}
			}
		}
	}
}

// TestPairsByHand: P1.1, without another reckoning.
func TestPairsByHand(t *testing.T) {
	for _, c := range []struct {
		name      string
		got, want int
	}{
		{"the document's example", num.Add(1<<40, 1), 1 << 40},
		{"a sum", num.Add(2, -5), -3},
		{"a sum below", num.Add(-limit, -1), -limit},
		{"what is above counts as the limit", num.Add(math.MaxInt, -1), limit - 1},
		{"what is below counts as the limit", num.Add(math.MinInt, 1), 1 - limit},
		{"a difference", num.Sub(2, -5), 7},
		{"a difference of what is below", num.Sub(math.MinInt, math.MinInt), 0},
		{"a difference above", num.Sub(limit, -1), limit},
		{"a product", num.Mul(-7, 6), -42},
		{"a product at the limit", num.Mul(1<<20, -1<<20), -limit},
		{"a product below the limit", num.Mul(1<<20-1, 1<<20+1), limit - 1},
		{"a product of 80 bits", num.Mul(limit, -limit), -limit},
		{"a product that wraps round to 0", num.Mul(1<<32, 1<<32), limit},
		{"a product with 0", num.Mul(0, math.MinInt), 0},
	} {
		if c.got != c.want {
			t.Errorf("%s: %d, not %d", c.name, c.got, c.want)
		}
	}
}

// TestSum: P1.1, and P1 and P2 of Sum; each step is cut, so that the order counts.
func TestSum(t *testing.T) {
	for _, c := range []struct {
		list []int
		want int
	}{
		{nil, 0},
		{[]int{}, 0},
		{[]int{5}, 5},
		{[]int{1, 2, 3, -10}, -4},
		{[]int{limit, 5, -5}, limit - 5},
		{[]int{5, -5, limit}, limit},
		{[]int{-limit, -5, 5}, 5 - limit},
		{[]int{math.MaxInt, math.MaxInt, -1}, limit - 1},
		{[]int{math.MinInt}, -limit},
		{[]int{math.MinInt, math.MaxInt, 7}, 7},
	} {
		kept := append([]int(nil), c.list...)
		for range 2 {
			if got := num.Sum(c.list...); got != c.want {
				t.Errorf("Sum(%v) is %d, not %d", c.list, got, c.want)
			}
		}
		for i, n := range kept {
			if c.list[i] != n {
				t.Errorf("Sum changed %v to %v", kept, c.list)
			}
		}
	}
}

// TestFull: P1.1, and P1 and P2 of Full.
func TestFull(t *testing.T) {
	for _, n := range edges() {
		want := n >= limit || n <= -limit
		for range 2 {
			if got := num.Full(n); got != want {
				t.Errorf("Full(%d) is %t", n, got)
			}
		}
	}
}
