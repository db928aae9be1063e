package group

import (
	"slices"
	"testing"

	"paternoster/api"
)

// TestChoose: P15.1; where a proof shows nothing the plan is the rule's: NoteRule, with how many wants there are. No search gives such a proof, so it is handed in here.
func TestChoose(t *testing.T) {
	s := api.Site{Floors: 9, Cars: 2, Step: 1, Open: 1, Wait: 1, Close: 1, Age: 1, Silent: 1, Budget: 1, Period: 1}
	snap := api.Snap{Site: s, Cars: []api.Ready{{Floor: 4}, {Floor: 8}}, Wants: []api.Want{{Floor: 1, Cars: 3}, {Floor: 3, Cars: 1}, {Floor: 7, Cars: 3}}}
	rules := api.Plan{{1, 0}, {2}}
	other := api.Plan{{0, 1, 2}, {}}
	for _, c := range []struct {
		name  string
		proof []byte
		note  api.Note
		want  api.Plan
	}{
		{"no proof", nil, api.Note{Kind: api.NoteRule, N: 3}, rules},
		{"no form", []byte{7}, api.Note{Kind: api.NoteRule, N: 3}, rules},
		{"a plan that can't be", []byte{0, 0, 0, 0, 0, 0, 0, 0, 21, 1, 0, 2, 1, 2}, api.Note{Kind: api.NoteRule, N: 3}, rules},
		{"another cost", []byte{0, 0, 0, 0, 0, 0, 0, 0, 31, 3, 0, 1, 2, 0}, api.Note{Kind: api.NoteRule, N: 3}, rules},
		{"no marks", []byte{1, 0, 0, 0, 0, 0, 0, 0, 32, 3, 0, 1, 2, 0}, api.Note{Kind: api.NoteRule, N: 3}, rules},
		// Here at 3, at 3+5+2, and at 10+5+4; a car stays for 5.
		{"a plan", []byte{0, 0, 0, 0, 0, 0, 0, 0, 32, 3, 0, 1, 2, 0}, api.Note{Kind: api.NotePlan, N: 32}, other},
	} {
		g, _ := New(s)
		if got := g.choose(snap, c.proof); !slices.EqualFunc(got, c.want, slices.Equal[[]int]) || !slices.Equal(g.notes, []api.Note{c.note}) {
			t.Errorf("%s: %v, %v", c.name, got, g.notes)
		}
	}
}
