// Package num is layer 1: see shared/doc/01-num.md.
package num

import "paternoster/api"

// Add gives a sum, within the limit.
func Add(a, b int) int { return within(within(a) + within(b)) }

// Sub gives a difference, within the limit.
func Sub(a, b int) int { return within(within(a) - within(b)) }

// Mul gives a product, within the limit.
func Mul(a, b int) int {
	a, b = within(a), within(b)
	// Two numbers at the limit have a product of 80 bits, so it is asked ahead whether an int holds it.
	if a != 0 && size(b) > api.Limit/size(a) {
		if (a < 0) != (b < 0) {
			return -api.Limit
		}
		return api.Limit
	}
	return a * b
}

// Sum gives the sum of numbers, one behind the other.
func Sum(list ...int) int {
	total := 0
	for _, n := range list {
		total = Add(total, n)
	}
	return total
}

// Full tells whether a number is at the limit.
func Full(a int) bool { return size(within(a)) == api.Limit }

// within gives what a number counts as.
func within(a int) int { return max(-api.Limit, min(a, api.Limit)) }

// size is for numbers within the limit alone: the least int has no size that an int holds.
func size(a int) int {
	if a < 0 {
		return -a
	}
	return a
}
