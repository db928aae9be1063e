package plan_test

import (
	"fmt"
	"math/rand"
	"slices"
	"testing"

	"paternoster/api"
	"paternoster/plan"
)

// written writes a plan as the chapter tells it.
func written(p api.Plan, wants int) []int {
	var list []int
	for _, wantsOfCar := range p {
		list = append(append(list, wantsOfCar...), wants)
	}
	return list
}

// orders gives all orders of a list's numbers.
func orders(list []int) [][]int {
	if len(list) == 0 {
		return [][]int{nil}
	}
	var all [][]int
	for n, first := range list {
		for _, rest := range orders(slices.Delete(slices.Clone(list), n, n+1)) {
			all = append(all, append([]int{first}, rest...))
		}
	}
	return all
}

// writtenByWords gives the writings of all feasible plans: every order of the wants and the lists' ends is tried, and what is left is sorted.
func writtenByWords(s api.Snap) [][]int {
	numbers := slices.Repeat([]int{len(s.Wants)}, len(s.Cars)-1)
	for n := range s.Wants {
		numbers = append(numbers, n)
	}
	var all [][]int
	for _, writing := range orders(numbers) {
		if p := cut(writing, len(s.Wants)); feasibleByWords(s, p) {
			all = append(all, written(p, len(s.Wants)))
		}
	}
	slices.SortFunc(all, slices.Compare)
	return slices.CompactFunc(all, slices.Equal)
}

// gather gives the writings of all plans, in the order in which they come.
func gather(s api.Snap) [][]int {
	var all [][]int
	for p := range plan.All(s) {
		all = append(all, written(p, len(s.Wants)))
	}
	return all
}

func equal(a, b [][]int) bool { return slices.EqualFunc(a, b, slices.Equal) }

// TestAll: P9.2, and P2 of All; of all small snapshots, whatever cars their wants have.
func TestAll(t *testing.T) {
	for cars, most := range []int{0, 5, 4, 3, 2} {
		for count := 0; cars > 0 && count <= most; count++ {
			for _, masks := range writings(count, 1, 1<<cars-1) {
				s := snap(cars, masks...)
				want := writtenByWords(s)
				for range 2 {
					if got := gather(s); !equal(got, want) {
						t.Fatalf("%d cars, wants of %v: %v, not %v", cars, masks, got, want)
					}
				}
			}
		}
	}
}

// TestAllByHand: P9.2, without a model.
func TestAllByHand(t *testing.T) {
	for _, c := range []struct {
		name string
		s    api.Snap
		want string
	}{
		{"the document's example", snap(1, 1, 1), "[[[0 1]] [[1 0]]]"},
		{"no wants", snap(1), "[[[]]]"},
		{"no wants, three cars", snap(3), "[[[] [] []]]"},
		{"no wants, eight cars", snap(8), "[[[] [] [] [] [] [] [] []]]"},
		{"one want", snap(2, 3), "[[[0] []] [[] [0]]]"},
		{"a list that is longer comes first", snap(2, 3, 3), "[[[0 1] []] [[0] [1]] [[1 0] []] [[1] [0]] [[] [0 1]] [[] [1 0]]]"},
		{"one plan alone", snap(3, 4, 1, 2), "[[[1] [2] [0]]]"},
		{"the first want is the last car's", snap(2, 2, 3), "[[[1] [0]] [[] [0 1]] [[] [1 0]]]"},
		{"the last want is the first car's", snap(2, 3, 1), "[[[0 1] []] [[1 0] []] [[1] [0]]]"},
		{"a car between has none", snap(3, 5), "[[[0] [] []] [[] [] [0]]]"},
	} {
		var all []api.Plan
		for p := range plan.All(c.s) {
			all = append(all, p)
		}
		if got := fmt.Sprint(all); got != c.want {
			t.Errorf("%s: %s", c.name, got)
		}
	}
}

// TestAllCounts: P9.2; how many plans there are where every car may serve every want, and that they rise and are feasible.
func TestAllCounts(t *testing.T) {
	for _, c := range []struct{ cars, wants, count int }{
		{1, 8, 40320},
		{2, 6, 720 * 7},
		{3, 5, 120 * 21},
		{8, 0, 1},
		{8, 1, 8},
		{8, 2, 2 * 36},
		{8, 4, 24 * 330},
	} {
		s := snap(c.cars, slices.Repeat([]int{1<<c.cars - 1}, c.wants)...)
		if got := rising(t, s, c.count+1); got != c.count {
			t.Errorf("%d cars, %d wants: %d plans, not %d", c.cars, c.wants, got, c.count)
		}
	}
}

// rising goes through so many plans at most, each of which must be feasible, and come behind the one ahead; it gives how many there were.
func rising(t *testing.T, s api.Snap, most int) int {
	t.Helper()
	count := 0
	var last []int
	for p := range plan.All(s) {
		now := written(p, len(s.Wants))
		if !plan.Feasible(s, p) || !feasibleByWords(s, p) {
			t.Fatalf("%v isn't feasible", p)
		}
		if count > 0 && slices.Compare(last, now) >= 0 {
			t.Fatalf("%v comes behind %v", now, last)
		}
		last = now
		if count++; count == most {
			break
		}
	}
	return count
}

// TestAllGreat: P9.2 at the limits; the first ones of more plans than can be gone through.
func TestAllGreat(t *testing.T) {
	r := rand.New(rand.NewSource(9))
	for range 20 {
		s := snap(8)
		for range 128 {
			s.Wants = append(s.Wants, api.Want{Cars: 1 + r.Intn(255)})
		}
		if got := rising(t, s, 2000); got != 2000 {
			t.Errorf("%d plans", got)
		}
		for p := range plan.All(s) {
			if !slices.IsSorted(p[0]) || !slices.IsSorted(p[7]) {
				t.Errorf("the first plan is %v", p)
			}
			break
		}
	}
}

// TestAllFewOfMany: P9.2; eight wants that have a car each, and one that has the first and the last one: few of all orders may be.
func TestAllFewOfMany(t *testing.T) {
	want := [][]int{
		{0, 8, 9, 1, 9, 2, 9, 3, 9, 4, 9, 5, 9, 6, 9, 7, 9},
		{0, 9, 1, 9, 2, 9, 3, 9, 4, 9, 5, 9, 6, 9, 7, 8, 9},
		{0, 9, 1, 9, 2, 9, 3, 9, 4, 9, 5, 9, 6, 9, 8, 7, 9},
		{8, 0, 9, 1, 9, 2, 9, 3, 9, 4, 9, 5, 9, 6, 9, 7, 9},
	}
	if got := gather(snap(8, 1, 2, 4, 8, 16, 32, 64, 128, 129)); !equal(got, want) {
		t.Errorf("%v, not %v", got, want)
	}
}

// TestAllEnds: P9.2; it ends where what ranges over it ends, and asks for nothing behind that.
func TestAllEnds(t *testing.T) {
	s := snap(3, 7, 3, 6, 5)
	all := gather(s)
	for stop := 1; stop <= len(all); stop++ {
		var got [][]int
		plan.All(s)(func(p api.Plan) bool {
			got = append(got, written(p, len(s.Wants)))
			return len(got) < stop
		})
		if !equal(got, all[:stop]) {
			t.Fatalf("ended behind %d: %v", stop, got)
		}
	}
}

// TestAllAgain: P2; a sequence may be gone through again, after it was left, and within itself.
func TestAllAgain(t *testing.T) {
	s := snap(2, 3, 3, 1)
	seq, all := plan.All(s), gather(s)
	for range seq {
		break
	}
	outer := 0
	for p := range seq {
		if !slices.Equal(written(p, 3), all[outer]) {
			t.Fatalf("the plan %d is %v", outer, p)
		}
		outer++
		inner := 0
		for q := range seq {
			if !slices.Equal(written(q, 3), all[inner]) {
				t.Fatalf("within the plan %d the plan %d is %v", outer, inner, q)
			}
			inner++
		}
		if inner != len(all) {
			t.Fatalf("within the plan %d there were %d", outer, inner)
		}
	}
	if outer != len(all) {
		t.Errorf("%d plans, not %d", outer, len(all))
	}
}

// TestAllIsNew: rule 4 of All; who writes into a plan, into its lists, or behind their ends, changes no other list, no other plan, and not what comes.
func TestAllIsNew(t *testing.T) {
	s := snap(3, 7, 7, 7)
	before, all := clone(s), gather(s)
	var kept []api.Plan
	for p := range plan.All(s) {
		kept = append(kept, p)
	}
	for n, p := range kept {
		for car := range p {
			rest := slices.Concat(p[car+1:]...)
			room := p[car][:cap(p[car])]
			for i := range room {
				room[i] = -7
			}
			if !slices.Equal(rest, slices.Concat(p[car+1:]...)) {
				t.Fatalf("two lists of the plan %d share memory", n)
			}
			p[car] = nil
		}
		_ = append(p[:0:cap(p)], make(api.Plan, cap(p))...)
		for i := n + 1; i < len(kept); i++ {
			if !slices.Equal(written(kept[i], 3), all[i]) {
				t.Fatalf("the plans %d and %d share memory", n, i)
			}
		}
	}
	n := 0
	for p := range plan.All(s) {
		if n >= len(all) || !slices.Equal(written(p, 3), all[n]) {
			t.Fatalf("the plan %d is %v, as the ones ahead were written into", n, p)
		}
		n++
		for car := range p {
			room := p[car][:cap(p[car])]
			for i := range room {
				room[i] = 2
			}
			p[car] = []int{0, 1, 2}
		}
	}
	if n != len(all) || !same(s, before) {
		t.Errorf("%d plans of %d; the snapshot is %+v", n, len(all), s)
	}
}

// TestAllKeepsNothing: rule 4 of All; who changes the snapshot's lists behind the call changes no plan, ahead of ranging and meanwhile.
func TestAllKeepsNothing(t *testing.T) {
	s := snap(2, 3, 1, 2)
	all := gather(s)
	seq := plan.All(s)
	for i := range s.Wants {
		s.Wants[i] = api.Want{Floor: -1, Cars: 0}
	}
	s.Cars[0].Floor = -1
	var got [][]int
	for p := range seq {
		got = append(got, written(p, 3))
	}
	if !equal(got, all) {
		t.Errorf("%v, not %v: the snapshot was kept", got, all)
	}
	wrong := snap(2, 3, 4)
	none := plan.All(wrong)
	wrong.Wants[1].Cars = 3
	for p := range none {
		t.Fatalf("of a snapshot that wasn't right the plan %v", p)
	}
	s, got = snap(2, 3, 1, 2), nil
	for p := range plan.All(s) {
		got = append(got, written(p, 3))
		s.Wants[0].Cars, s.Wants[1].Cars, s.Wants[2].Cars = 3, 3, 3
	}
	if !equal(got, all) {
		t.Errorf("%v, not %v: the snapshot is read meanwhile", got, all)
	}
}
