package plan

import "paternoster/api"

// draft is a plan on its way: its lists so far, and which wants stand in them.
type draft struct {
	wants  []api.Want
	stands []bool
	lists  api.Plan
}

// newDraft gives a draft with a list of each car, all empty. It reads the wants alone.
func newDraft(cars int, wants []api.Want) *draft {
	return &draft{wants, make([]bool, len(wants)), make(api.Plan, cars)}
}

// mayTake tells whether a want may be put at the end of a car's list.
func (d *draft) mayTake(car, want int) bool {
	return !d.stands[want] && d.wants[want].Cars>>car&1 == 1
}

// take puts a want at the end of a car's list.
func (d *draft) take(car, want int) {
	d.stands[want] = true
	d.lists[car] = append(d.lists[car], want)
}

// giveBack takes the last want out of a car's list.
func (d *draft) giveBack(car int) {
	list := d.lists[car]
	last := len(list) - 1
	d.stands[list[last]] = false
	d.lists[car] = list[:last]
}

// nothingLeft tells whether all wants stand in the lists.
func (d *draft) nothingLeft() bool {
	return every(d.stands, func(stands bool) bool { return stands })
}

// mayEnd tells whether a car's list may end: a want that is left, and that no car behind may serve, would stand nowhere.
func (d *draft) mayEnd(car int) bool {
	for want, w := range d.wants {
		if !d.stands[want] && w.Cars>>(car+1) == 0 {
			return false
		}
	}
	return true
}

// plans goes through all plans that may be, in their order. Each is the draft's own lists, which the next one changes.
func (d *draft) plans() func(func(api.Plan) bool) {
	return func(yield func(api.Plan) bool) { d.goOn(0, yield) }
}

// goOn goes through the plans that go on from the draft at a car's list, and tells whether more are asked for.
// A list's end is written as the number of wants, which is more than any of them: so it comes behind them.
// As no list ends too soon every way leads to a plan, and the next one is never long in coming.
func (d *draft) goOn(car int, yield func(api.Plan) bool) bool {
	if car == len(d.lists) {
		return yield(d.lists)
	}
	for want := range d.wants {
		if !d.mayTake(car, want) {
			continue
		}
		d.take(car, want)
		if !d.goOn(car, yield) {
			return false
		}
		d.giveBack(car)
	}
	return !d.mayEnd(car) || d.goOn(car+1, yield)
}
