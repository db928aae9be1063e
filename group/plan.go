package group

import (
	"paternoster/api"
	"paternoster/check"
	"paternoster/rule"
	"paternoster/search"
	"paternoster/site"
)

// plan settles anew which car serves which calls, and in which order.
func (g *Group) plan() {
	snap, wanted := g.snapshot()
	found, _ := search.Find(snap, g.site.Budget) // with an error there is no proof, and nothing is shown
	g.nodes = found.Nodes
	g.adopt(g.choose(snap, found.Proof), wanted)
	if lost := len(g.book.All()) - len(wanted); lost > 0 {
		g.note(api.NoteLost, lost)
	}
}

// snapshot gives the group as it is now, and the calls that are its wants.
func (g *Group) snapshot() (api.Snap, []api.Call) {
	snap := api.Snap{Site: g.site}
	for car := range g.cars {
		snap.Cars = append(snap.Cars, g.ready(&g.cars[car]))
	}
	var wanted []api.Call
	for _, c := range g.book.All() {
		if cars := g.serving(c); cars != 0 {
			snap.Wants = append(snap.Wants, api.Want{Floor: c.Floor, Cars: cars})
			wanted = append(wanted, c)
		}
	}
	return snap, wanted
}

// ready gives from where a car goes on, and when, as far as is known.
func (g *Group) ready(m *member) api.Ready {
	switch {
	case m.Moves:
		return api.Ready{Floor: m.Target, After: site.Travel(g.site, m.Floor, m.Target)}
	case m.Phase != api.Shut:
		return api.Ready{Floor: m.Floor, After: g.site.Open + g.site.Wait + g.site.Close}
	}
	return api.Ready{Floor: m.Floor}
}

// serving gives the cars that may serve a call, as bits.
func (g *Group) serving(c api.Call) int {
	cars := 0
	for car := range g.cars {
		if g.May(car, c) {
			cars |= 1 << car
		}
	}
	return cars
}

// choose gives the plan that a proof shows, and that of the rule, if it shows none.
func (g *Group) choose(snap api.Snap, proof []byte) api.Plan {
	claim, e := check.Check(snap, proof)
	switch {
	case e != api.OK:
		g.note(api.NoteRule, len(snap.Wants))
		p, _ := rule.Plan(snap) // no error: a group's snapshot is right
		return p
	case claim.Best:
		g.note(api.NoteBest, claim.Cost)
	default:
		g.note(api.NotePlan, claim.Cost)
	}
	return claim.Plan
}

// adopt lets each car go by its list of a plan from now on.
func (g *Group) adopt(p api.Plan, wanted []api.Call) {
	for car, places := range p {
		list := make([]api.Call, 0, len(places))
		for _, place := range places {
			list = append(list, ageless(wanted[place]))
		}
		g.cars[car].list = list
	}
}

// ageless gives a call as all that are alike have it.
func ageless(c api.Call) api.Call {
	c.Age = 0
	return c
}
