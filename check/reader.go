package check

import "paternoster/api"

// costBytes is how many bytes a cost is written as.
const costBytes = 8

// reader is what is left to be read of a proof.
type reader struct{ rest []byte }

// take cuts off the next bytes; false, if there are not so many.
func (r *reader) take(count int) ([]byte, bool) {
	if count > len(r.rest) {
		return nil, false
	}
	// The room is bounded, so that nobody can reach from these bytes into those that are left.
	taken := r.rest[:count:count]
	r.rest = r.rest[count:]
	return taken, true
}

// claim reads all that is ahead of the marks; false, if it isn't of the form.
func (r *reader) claim(cars int) (Claim, bool) {
	kind, ok := r.take(1)
	if !ok || kind[0] > 1 {
		return Claim{}, false
	}
	cost, ok := r.cost()
	if !ok {
		return Claim{}, false
	}
	claim := Claim{Best: kind[0] == 1, Cost: cost, Plan: make(api.Plan, cars)}
	for car := range cars {
		if claim.Plan[car], ok = r.list(); !ok {
			return Claim{}, false
		}
	}
	return claim, claim.Best || len(r.rest) == 0
}

// cost reads a cost.
func (r *reader) cost() (int, bool) {
	written, ok := r.take(costBytes)
	// An int needn't hold what eight bytes may tell.
	cost := uint64(0)
	for _, b := range written {
		cost = cost<<8 | uint64(b)
	}
	if !ok || cost > api.Limit {
		return 0, false
	}
	return int(cost), true
}

// list reads a car's list.
func (r *reader) list() ([]int, bool) {
	count, ok := r.take(1)
	if !ok {
		return nil, false
	}
	written, ok := r.take(int(count[0]))
	list := make([]int, len(written))
	for i, want := range written {
		list[i] = int(want)
	}
	return list, ok
}
