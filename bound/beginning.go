package bound

import (
	"paternoster/api"
	"paternoster/num"
	"paternoster/route"
)

// beginning is lists of a right snapshot's wants: where each car is behind its list, which wants stand in none, and what the others cost.
type beginning struct {
	snap api.Snap
	ends []route.Stop
	left map[int]api.Want
	cost int
}

// newBeginning gives the beginning without lists.
func newBeginning(s api.Snap) *beginning {
	b := &beginning{s, make([]route.Stop, len(s.Cars)), make(map[int]api.Want, len(s.Wants)), 0}
	for car, ready := range s.Cars {
		b.ends[car] = route.Begin(ready)
	}
	for place, want := range s.Wants {
		b.left[place] = want
	}
	return b
}

// take puts a want at the end of a car's list, and tells whether it may stand there.
func (b *beginning) take(car, place int) bool {
	// A place of no want is never left, so it needn't be asked for.
	want, isLeft := b.left[place]
	if !isLeft || !has(want, car) {
		return false
	}
	delete(b.left, place)
	b.ends[car] = route.Next(b.snap.Site, b.ends[car], want.Floor)
	b.cost = num.Add(b.cost, b.ends[car].Here)
	return true
}

// least gives the least cost, where no car ahead of one takes any more wants.
func (b *beginning) least(car int) int {
	total := b.cost
	// In the wants' order, as that of a map is another one each time.
	for place := range b.snap.Wants {
		if want, isLeft := b.left[place]; isLeft {
			total = num.Add(total, b.earliest(car, want))
		}
	}
	return total
}

// earliest gives the least time of a want that is served next by a car, or by one behind it.
// It is Limit where none may serve it: then no sum that it is in is anything else, as no time is below 0.
func (b *beginning) earliest(first int, want api.Want) int {
	time := api.Limit
	for car := first; car < len(b.ends); car++ {
		if has(want, car) {
			time = min(time, route.Next(b.snap.Site, b.ends[car], want.Floor).Here)
		}
	}
	return time
}

// has tells whether a car may serve a want.
func has(want api.Want, car int) bool { return want.Cars>>car&1 == 1 }
