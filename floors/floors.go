// Package floors is layer 2: see shared/doc/02-floors.md.
package floors

import (
	"math/bits"

	"paternoster/api"
)

// Set is some floors.
type Set uint64

// Of gives the set of floors.
func Of(list ...int) Set {
	var s Set
	for _, floor := range list {
		s = s.With(floor)
	}
	return s
}

// To gives the set of all floors below one.
func To(n int) Set {
	if n < 1 {
		return 0
	}
	// A shift by all 64 bits leaves 0, of which 1 less is every floor.
	return Set(1)<<min(n, api.MaxFloors) - 1
}

// Has tells whether a floor is in a set.
func (s Set) Has(floor int) bool { return s&only(floor) != 0 }

// With gives a set with a floor.
func (s Set) With(floor int) Set { return s | only(floor) }

// Without gives a set without a floor.
func (s Set) Without(floor int) Set { return s &^ only(floor) }

// Len tells how many floors there are.
func (s Set) Len() int { return bits.OnesCount64(uint64(s)) }

// Up goes through the floors from one on, rising.
func (s Set) Up(from int) func(func(int) bool) {
	return func(yield func(int) bool) {
		for floor := max(from, 0); floor < api.MaxFloors; floor++ {
			if s.Has(floor) && !yield(floor) {
				return
			}
		}
	}
}

// Down goes through the floors from one on, falling.
func (s Set) Down(from int) func(func(int) bool) {
	return func(yield func(int) bool) {
		for floor := min(from, api.MaxFloors-1); floor >= 0; floor-- {
			if s.Has(floor) && !yield(floor) {
				return
			}
		}
	}
}

// Nearest gives the floor that is nearest to one; of two the lower one.
func (s Set) Nearest(floor int) (int, bool) {
	below, isBelow := first(s.Down(floor))
	above, isAbove := first(s.Up(floor))
	if !isBelow {
		return above, isAbove
	}
	// What has floors on both sides is a floor itself, so that these differences can't wrap round.
	if isAbove && above-floor < floor-below {
		return above, true
	}
	return below, true
}

// only gives the set of a floor alone; it is empty of a number that is no floor, so that who uses it needn't ask.
func only(floor int) Set {
	if floor < 0 || floor >= api.MaxFloors {
		return 0
	}
	return 1 << floor
}

// first gives what a sequence begins with.
func first(all func(func(int) bool)) (int, bool) {
	for floor := range all {
		return floor, true
	}
	return 0, false
}
