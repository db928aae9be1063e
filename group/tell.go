package group

import (
	"slices"

	"paternoster/api"
	"paternoster/rule"
)

// tell gives what each car is told.
func (g *Group) tell() []api.Command {
	waiting := g.book.All()
	told := make([]api.Command, len(g.cars))
	for car := range g.cars {
		told[car] = g.command(car, waiting)
	}
	return told
}

// command gives what a car is told: something, where it is known to be idle alone.
func (g *Group) command(car int, waiting []api.Call) api.Command {
	m := &g.cars[car]
	if !m.works() || !m.idle() {
		return api.Nothing()
	}
	if g.recall {
		return m.sendTo(0, side{})
	}
	c, ok := g.goal(car, waiting)
	if !ok {
		return api.Nothing()
	}
	return m.sendTo(c.Floor, sideOf(c))
}

// goal gives the call that a car goes for, where there is no recall: one that is old, whatever the plan, or the next one of the plan.
func (g *Group) goal(car int, waiting []api.Call) (api.Call, bool) {
	may := func(c api.Call) bool { return g.May(car, c) }
	if c, ok := rule.Oldest(waiting, may, g.site.Age); ok {
		return c, true
	}
	list := g.cars[car].list
	next := slices.IndexFunc(list, func(c api.Call) bool { return may(c) && waits(c, waiting) })
	if next < 0 {
		return api.Call{}, false
	}
	return list[next], true
}

// sendTo tells a car to go to a floor, or, if it is there, to open, and take in that side's calls.
func (m *member) sendTo(floor int, s side) api.Command {
	do := api.Nothing()
	if m.Floor != floor {
		do.Go = floor
		return do
	}
	do.Open = true
	m.side = s
	return do
}

// waits tells whether a call of a plan is still among those that wait.
func waits(planned api.Call, waiting []api.Call) bool {
	return slices.ContainsFunc(waiting, func(c api.Call) bool { return ageless(c) == planned })
}

// sideOf gives the side of a call: of one in a car neither.
func sideOf(c api.Call) side {
	if c.Car != hall {
		return side{}
	}
	return side{up: c.Up, down: !c.Up}
}
