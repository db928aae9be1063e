package check_test

import (
	"encoding/binary"
	"math"
	"math/rand"
	"slices"
	"testing"

	"paternoster/api"
	"paternoster/check"
	"paternoster/plan"
	"paternoster/route"
	"paternoster/search"
)

// leastOf gives the least cost of all feasible plans.
func leastOf(s api.Snap) int {
	least := api.Limit
	for p := range plan.All(s) {
		cost, _ := route.Cost(s, p)
		least = min(least, cost)
	}
	return least
}

// holdShown holds what is shown to what is so.
func holdShown(t *testing.T, s api.Snap, least int, proof []byte) (check.Claim, api.Errno) {
	t.Helper()
	got, e := check.Check(s, proof)
	if e != api.OK {
		if !sameClaim(got, check.Claim{}) {
			t.Fatalf("%+v, %v: %+v beside %d", s, proof, got, e)
		}
		return got, e
	}
	if cost, e := route.Cost(s, got.Plan); e != api.OK || cost != got.Cost || got.Best && cost != least {
		t.Fatalf("%+v, %v: %+v, %d; it costs %d, the least is %d", s, proof, got, e, cost, least)
	}
	return got, e
}

// allMarks gives the marks of a node and of all behind it, with none cut that has wants left.
func allMarks(s api.Snap, n beginning) []byte {
	if len(n.left(s)) == 0 {
		return []byte{2}
	}
	marks := []byte{1}
	for _, child := range n.children(s) {
		marks = append(marks, allMarks(s, child)...)
	}
	return marks
}

// TestAllPlans: P13.2; of all feasible plans, with the marks of all nodes, just those are shown that cost least.
func TestAllPlans(t *testing.T) {
	r := rand.New(rand.NewSource(132))
	shown, refused := 0, 0
	for _, c := range []struct{ cars, wants, rounds int }{{1, 2, 5}, {1, 4, 20}, {2, 2, 20}, {2, 3, 40}, {2, 4, 20}, {3, 3, 20}, {8, 2, 5}} {
		for range c.rounds {
			s := random(r, c.cars, c.wants)
			least := leastOf(s)
			marks := allMarks(s, beginning{0, make(api.Plan, c.cars)})
			for p := range plan.All(s) {
				cost, _ := route.Cost(s, p)
				got, e := holdShown(t, s, least, slices.Concat(head(1, cost, p), marks))
				if (e == api.OK) != (cost == least) || e != api.OK && e != api.ErrProof {
					t.Fatalf("%+v, %v: %d, and the least cost is %d", s, p, e, least)
				}
				if e == api.OK {
					shown++
				} else {
					refused++
				}
				if got, e = holdShown(t, s, least, head(0, cost, p)); e != api.OK || !sameClaim(got, check.Claim{Cost: cost, Plan: p}) {
					t.Fatalf("%+v, %v: %+v, %d", s, p, got, e)
				}
			}
		}
	}
	if shown < 200 || refused < 1000 {
		t.Errorf("%d were shown, %d not", shown, refused)
	}
}

// TestAllMarks: P13.1 and P13.2; of small snapshots all marks that may stand behind each plan, and some that may not.
func TestAllMarks(t *testing.T) {
	r := rand.New(rand.NewSource(133))
	best := 0
	for _, c := range []struct{ cars, wants, rounds, length int }{{1, 1, 4, 4}, {1, 2, 8, 6}, {2, 1, 8, 6}, {2, 2, 4, 7}} {
		for range c.rounds {
			s := random(r, c.cars, c.wants)
			least := leastOf(s)
			for p := range plan.All(s) {
				cost, _ := route.Cost(s, p)
				for length := range c.length + 1 {
					for number := range 1 << (2 * length) {
						proof := head(1, cost, p)
						for i := range length {
							proof = append(proof, byte(number>>(2*i)&3))
						}
						got, e := holdShown(t, s, least, proof)
						if want, wantE := checkByWords(s, proof); e != wantE || !sameClaim(got, want) {
							t.Fatalf("%+v, %v: %+v, %d, not %+v, %d", s, proof, got, e, want, wantE)
						}
						if got.Best {
							best++
						}
					}
				}
			}
		}
	}
	if best < 100 {
		t.Errorf("only %d were shown as best", best)
	}
}

// TestAnyBytes: P13.2, and P1; whatever bytes are handed in.
func TestAnyBytes(t *testing.T) {
	r := rand.New(rand.NewSource(134))
	shown := 0
	for range 300 {
		s := random(r, 1+r.Intn(3), r.Intn(5))
		least := leastOf(s)
		found, _ := search.Find(s, maxBudget)
		for range 100 {
			proof := slices.Clone(found.Proof)
			if r.Intn(2) == 0 {
				p, _ := search.First(s)
				cost, _ := route.Cost(s, p)
				proof = slices.Concat(head(1, cost, p), found.Proof[len(head(1, cost, p)):])
			}
			for range 1 + r.Intn(3) {
				proof[r.Intn(len(proof))] = byte(r.Intn(4))
			}
			if _, e := holdShown(t, s, least, proof); e == api.OK {
				shown++
			}
			for i := range proof {
				proof[i] = byte(r.Intn(256))
			}
			holdShown(t, s, least, proof)
		}
	}
	if shown < 1000 {
		t.Errorf("only %d were shown", shown)
	}
}

// TestFoundIsShown: P13.2; searches of some thousand nodes, and such that ended too soon.
func TestFoundIsShown(t *testing.T) {
	r := rand.New(rand.NewSource(135))
	most, ended := 0, 0
	for _, c := range []struct{ cars, wants int }{{1, 10}, {2, 9}, {3, 9}, {3, 10}, {5, 9}, {8, 9}, {1, 128}, {8, 128}} {
		for range 3 {
			s := random(r, c.cars, c.wants)
			for _, budget := range []int{1, 100, 30000} {
				found, _ := search.Find(s, budget)
				got, e := check.Check(s, found.Proof)
				if want := (check.Claim{Best: found.Complete, Cost: found.Cost, Plan: found.Plan}); e != api.OK || !sameClaim(got, want) {
					t.Fatalf("%+v within %d: %+v, %d, not %+v", s, budget, got, e, want)
				}
				if !found.Complete {
					ended++
				} else {
					most = max(most, found.Nodes)
					proof := slices.Clone(found.Proof)
					proof[len(proof)-1] = 3
					if got, e := check.Check(s, proof); e != api.ErrProof || !sameClaim(got, check.Claim{}) {
						t.Fatalf("%+v within %d: %+v, %d", s, budget, got, e)
					}
				}
			}
		}
	}
	if most < 5000 || ended < 20 {
		t.Errorf("%d nodes at most, %d searches ended", most, ended)
	}
}

// TestForm: P13.1; what a form may be, and what it may not, whatever it tells.
func TestForm(t *testing.T) {
	s := random(rand.New(rand.NewSource(136)), 2, 3)
	for place := range s.Wants {
		s.Wants[place].Cars = 3
	}
	p := api.Plan{{2, 0}, {1}}
	cost, _ := route.Cost(s, p)
	told := func(cost uint64) []byte {
		proof := head(0, 0, p)
		binary.BigEndian.PutUint64(proof[1:], cost)
		return proof
	}
	for _, c := range []struct {
		name  string
		proof []byte
		want  api.Errno
	}{
		{"nil", nil, api.ErrForm},
		{"no bytes", []byte{}, api.ErrForm},
		{"a byte alone", []byte{1}, api.ErrForm},
		{"seven bytes of a cost", []byte{0, 0, 0, 0, 0, 0, 0, 0}, api.ErrForm},
		{"no lists", []byte{0, 0, 0, 0, 0, 0, 0, 0, 0}, api.ErrForm},
		{"a list too few", head(0, cost, p[:1]), api.ErrForm},
		{"a list too many", head(0, cost, api.Plan{{2, 0}, {1}, {}}), api.ErrForm},
		{"a mark", append(head(0, cost, p), 0), api.ErrForm},
		{"marks", append(head(0, cost, p), 1, 2), api.ErrForm},
		{"a want missing", head(0, cost, p)[:13], api.ErrForm},
		{"a want missing, with 1", head(1, cost, p)[:13], api.ErrForm},
		{"a first byte of 2", head(2, cost, p), api.ErrForm},
		{"a first byte of 255", head(255, cost, p), api.ErrForm},
		{"a cost of the limit", told(1 << 40), api.ErrProof},
		{"a cost above the limit", told(1<<40 + 1), api.ErrForm},
		{"a cost far above the limit", told(1 << 63), api.ErrForm},
		{"the greatest cost", told(math.MaxUint64), api.ErrForm},
		{"a cost that wraps round", told(1<<63 + uint64(cost)), api.ErrForm},
		{"a cost of 32 bits too many", told(1<<32 + uint64(cost)), api.ErrProof},
		{"a cost too great", told(uint64(cost + 1)), api.ErrProof},
		{"a cost too small", told(uint64(cost - 1)), api.ErrProof},
		{"its cost", told(uint64(cost)), api.OK},
		{"a list of 255, all there", head(0, cost, api.Plan{slices.Repeat([]int{0}, 255), {}}), api.ErrPlan},
		{"a list of 255, the last one missing", head(0, cost, api.Plan{{}, slices.Repeat([]int{0}, 255)})[:265], api.ErrForm},
		{"a want that isn't", head(0, cost, api.Plan{{2, 0}, {3}}), api.ErrPlan},
		{"a want of 255", head(0, cost, api.Plan{{2, 255}, {1}}), api.ErrPlan},
		{"a want twice", head(0, cost, api.Plan{{2, 0}, {1, 0}}), api.ErrPlan},
		{"a want left", head(0, cost, api.Plan{{2, 0}, {}}), api.ErrPlan},
		{"a want left, and no marks, with 1", head(1, cost, api.Plan{{2, 0}, {}}), api.ErrPlan},
		{"a wrong form, and no plan", append(head(0, cost, api.Plan{{2, 0}, {}}), 9), api.ErrForm},
		{"no plan, and another cost", head(0, cost+1, api.Plan{{2, 0}, {}}), api.ErrPlan},
		{"another cost, with 1, and no marks", head(1, cost+1, p), api.ErrProof},
	} {
		if got, e := check.Check(s, c.proof); e != c.want || e != api.OK && !sameClaim(got, check.Claim{}) {
			t.Errorf("%s: %+v, %d, not %d", c.name, got, e, c.want)
		}
		hold(t, s, c.proof)
	}
	s.Wants[1].Cars = 1
	if _, e := check.Check(s, told(uint64(cost))); e != api.ErrPlan {
		t.Errorf("a car that a want hasn't: %d", e)
	}
}

// TestWrongSnaps: P13.1; of a snapshot that isn't right nothing is shown, whatever the bytes are, and none panics.
func TestWrongSnaps(t *testing.T) {
	for name, turn := range map[string]func(*api.Snap){
		"nothing":              func(s *api.Snap) { *s = api.Snap{} },
		"no cars":              func(s *api.Snap) { s.Cars = nil },
		"no cars in the site":  func(s *api.Snap) { s.Cars, s.Site.Cars, s.Wants = nil, 0, nil },
		"a car too few":        func(s *api.Snap) { s.Cars = s.Cars[:2] },
		"a car too many":       func(s *api.Snap) { s.Cars = append(s.Cars, api.Ready{}) },
		"nine cars":            func(s *api.Snap) { s.Site.Cars, s.Cars = 9, make([]api.Ready, 9) },
		"far too many cars":    func(s *api.Snap) { s.Site.Cars = math.MaxInt },
		"a car above":          func(s *api.Snap) { s.Cars[2].Floor = s.Site.Floors },
		"a car below":          func(s *api.Snap) { s.Cars[0].Floor = -1 },
		"a car ready ahead":    func(s *api.Snap) { s.Cars[1].After = -1 },
		"a car ready too late": func(s *api.Snap) { s.Cars[1].After = 1000001 },
		"a want above":         func(s *api.Snap) { s.Wants[3].Floor = s.Site.Floors },
		"a want below":         func(s *api.Snap) { s.Wants[3].Floor = math.MinInt },
		"a want without cars":  func(s *api.Snap) { s.Wants[0].Cars = 0 },
		"a car that isn't":     func(s *api.Snap) { s.Wants[0].Cars = 15 },
		"a site without Age":   func(s *api.Snap) { s.Site.Age = 0 },
		"a site without steps": func(s *api.Snap) { s.Site.Step = 0 },
		"a site of 65 floors":  func(s *api.Snap) { s.Site.Floors = 65 },
		"129 wants":            func(s *api.Snap) { s.Wants = slices.Repeat(s.Wants[:1], 129) },
	} {
		s := random(rand.New(rand.NewSource(7)), 3, 5)
		found, _ := search.Find(s, maxBudget)
		if _, e := check.Check(s, found.Proof); e != api.OK {
			t.Fatalf("%+v: %d", s, e)
		}
		turn(&s)
		for _, proof := range [][]byte{found.Proof, found.Proof[:5], {1, 0, 0, 0, 0, 0, 0, 0, 0, 2}, {2}, nil} {
			if got, e := check.Check(s, proof); e != api.ErrArg || !sameClaim(got, check.Claim{}) {
				t.Errorf("%s: %v: %+v, %d", name, proof, got, e)
			}
		}
	}
}

// TestOneNodeEach: P13.3, at the limits of cars and wants, where nobody could look at all nodes: each mark more takes no more than one node's memory.
func TestOneNodeEach(t *testing.T) {
	s := great()
	p, _ := search.First(s)
	cost, _ := route.Cost(s, p)
	memory := func(marks int) float64 {
		proof := append(head(1, cost, p), slices.Repeat([]byte{1}, marks)...)
		return testing.AllocsPerRun(5, func() {
			if _, e := check.Check(s, proof); e != api.ErrProof {
				t.Fatalf("%d marks: %d", marks, e)
			}
		})
	}
	none := memory(0)
	for _, marks := range []int{1, 2, 10, 128, 129} {
		if more := memory(marks) - none; more > 2*float64(marks) {
			t.Errorf("%d marks take %f lists more than none", marks, more)
		}
	}
}

// TestGreat: P13.1, P13.3 and P1 at the limits: the greatest times, and marks of which there are far too many.
func TestGreat(t *testing.T) {
	s := great()
	s.Site.Cars, s.Cars = 1, []api.Ready{{Floor: 0, After: 1000000}}
	s.Site.Start, s.Site.Step, s.Site.Stop = 1000, 1000, 1000
	s.Site.Open, s.Site.Wait, s.Site.Close = 1000, 1000, 1000
	p := api.Plan{make([]int, 128)}
	for place := range s.Wants {
		s.Wants[place] = api.Want{Floor: 63 * (1 - place%2), Cars: 1}
		p[0][place] = place
	}
	cost := 128*1065000 + 68002*127*64
	if got, e := check.Check(s, head(0, cost, p)); e != api.OK || !sameClaim(got, check.Claim{Cost: cost, Plan: p}) {
		t.Errorf("%+v, %d", got, e)
	}
	for _, mark := range []byte{0, 1, 2, 3} {
		hold(t, s, append(head(1, cost, p), slices.Repeat([]byte{mark}, 500)...))
	}
	// All at one floor: whatever their order is they are served at once, so all 128 are shown by one node, and by many.
	for place := range s.Wants {
		s.Wants[place].Floor = 63
	}
	deep := append(slices.Repeat([]byte{1}, 128), 2)
	deep = append(deep, make([]byte, 128*127/2)...) // all but the first child of each node are cut
	for _, marks := range [][]byte{{0}, append([]byte{1}, make([]byte, 128)...), deep} {
		if got, e := hold(t, s, append(head(1, 128*1065000, p), marks...)); e != api.OK || !got.Best {
			t.Errorf("%d marks: %d", len(marks), e)
		}
	}
	if _, e := check.Check(s, append(head(1, 128*1065000, p), make([]byte, 1<<24)...)); e != api.ErrProof {
		t.Errorf("far too many marks: %d", e)
	}
	if _, e := check.Check(s, append(head(1, 128*1065000, p), deep[:len(deep)-1]...)); e != api.ErrProof {
		t.Errorf("the last node without a mark: %d", e)
	}
}

// TestCheckIsNew: rule 4; what is handed in isn't changed, in the room behind its end neither; what is answered is new, and its lists share nothing.
func TestCheckIsNew(t *testing.T) {
	s := random(rand.New(rand.NewSource(4)), 3, 7)
	wants := s.Wants
	s.Wants = wants[:6]
	found, _ := search.Find(s, maxBudget)
	whole := append(slices.Clone(found.Proof), 9, 9, 9)
	proof := whole[:len(found.Proof)]
	cars, all, before := slices.Clone(s.Cars), slices.Clone(wants), slices.Clone(whole)
	want := check.Claim{Best: true, Cost: found.Cost, Plan: found.Plan}
	one, _ := check.Check(s, proof)
	other, _ := check.Check(s, proof)
	for car := range one.Plan {
		rest := slices.Concat(one.Plan[car+1:]...)
		room := one.Plan[car][:cap(one.Plan[car])]
		for i := range room {
			room[i] = -7
		}
		if !slices.Equal(rest, slices.Concat(one.Plan[car+1:]...)) {
			t.Errorf("the list of the car %d shares memory with one behind", car)
		}
		one.Plan[car] = nil
	}
	if again, _ := check.Check(s, proof); !sameClaim(other, want) || !sameClaim(again, want) {
		t.Errorf("%+v and %+v, not %+v", other, again, want)
	}
	if !slices.Equal(s.Cars, cars) || !slices.Equal(wants, all) || !slices.Equal(whole, before) {
		t.Errorf("%+v and %v, which were handed in", s, whole)
	}
	for i := range whole {
		whole[i] = 0
	}
	if !sameClaim(other, want) {
		t.Errorf("%+v keeps what was handed in", other)
	}
}
