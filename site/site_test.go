package site_test

import (
	"math"
	"slices"
	"testing"

	"paternoster/api"
	"paternoster/site"
)

// fields has each number of a site, with the least and the most that the chapter lets it be.
var fields = []struct {
	name        string
	of          func(*api.Site) *int
	least, most int
}{
	{"Floors", func(s *api.Site) *int { return &s.Floors }, 2, 64},
	{"Cars", func(s *api.Site) *int { return &s.Cars }, 1, 8},
	{"Start", func(s *api.Site) *int { return &s.Start }, 0, 1000},
	{"Step", func(s *api.Site) *int { return &s.Step }, 1, 1000},
	{"Stop", func(s *api.Site) *int { return &s.Stop }, 0, 1000},
	{"Open", func(s *api.Site) *int { return &s.Open }, 1, 1000},
	{"Wait", func(s *api.Site) *int { return &s.Wait }, 1, 1000},
	{"Close", func(s *api.Site) *int { return &s.Close }, 1, 1000},
	{"Nudge", func(s *api.Site) *int { return &s.Nudge }, 0, 10},
	{"Age", func(s *api.Site) *int { return &s.Age }, 1, 1000000},
	{"Silent", func(s *api.Site) *int { return &s.Silent }, 1, 1000000},
	{"Budget", func(s *api.Site) *int { return &s.Budget }, 1, 1000000},
	{"Period", func(s *api.Site) *int { return &s.Period }, 1, 1000},
}

func ordinary() api.Site {
	return api.Site{Floors: 9, Cars: 3, Start: 2, Step: 3, Stop: 4, Open: 5, Wait: 11, Close: 6, Nudge: 2, Age: 500, Silent: 20, Budget: 700, Period: 17}
}

// corners has the ordinary site, and all sites whose numbers are each the least or the most they may be.
func corners() []api.Site {
	list := []api.Site{ordinary()}
	for mask := range 1 << len(fields) {
		var s api.Site
		for i, f := range fields {
			*f.of(&s) = f.least
			if mask>>i%2 == 1 {
				*f.of(&s) = f.most
			}
		}
		list = append(list, s)
	}
	return list
}

// travels has the sites of which the travels are other ones: what they don't hang on is left at the ordinary.
func travels() []api.Site {
	list := []api.Site{ordinary()}
	for _, floors := range []int{2, 3, 63, 64} {
		for _, start := range []int{0, 1, 1000} {
			for _, step := range []int{1, 7, 1000} {
				for _, stop := range []int{0, 1, 1000} {
					s := ordinary()
					s.Floors, s.Start, s.Step, s.Stop = floors, start, step, stop
					list = append(list, s)
				}
			}
		}
	}
	return list
}

// wrong has sites that aren't right, most of them far from it.
func wrong() []api.Site {
	list := []api.Site{{}}
	ends := []int{math.MinInt, math.MinInt + 1, -1 << 40, -1, 1 << 33, 1 << 40, 1 << 62, math.MaxInt - 1, math.MaxInt}
	for _, n := range ends {
		var all api.Site
		for _, f := range fields {
			one := ordinary()
			*f.of(&one) = n
			*f.of(&all) = n
			list = append(list, one)
		}
		list = append(list, all)
	}
	return list
}

// walk counts a travel's ticks floor by floor.
func walk(s api.Site, from, to int) int {
	if from == to || from < 0 || to < 0 || from >= s.Floors || to >= s.Floors {
		return 0
	}
	ticks := s.Start
	for at := from; at != to; {
		ticks += s.Step
		if at < to {
			at++
		} else {
			at--
		}
	}
	return ticks + s.Stop
}

// places has the numbers about a site's floors, and numbers that are far from all floors.
func places(s api.Site) []int {
	list := []int{math.MinInt, math.MinInt + 1, -1 << 32, -64, 1 << 32, math.MaxInt - 1, math.MaxInt}
	for n := -2; n <= s.Floors+2; n++ {
		list = append(list, n)
	}
	return list
}

// TestRight: P3.1, and P1 and P2 of Right; each number alone at its bounds, and beyond them.
func TestRight(t *testing.T) {
	for _, f := range fields {
		for _, n := range []int{
			math.MinInt, math.MinInt + 1, -1 << 32, -1000, -1, 0, 1,
			f.least - 1, f.least, f.least + 1, f.most - 1, f.most, f.most + 1,
			1001, 1 << 32, 1<<32 + 5, math.MaxInt - 1, math.MaxInt,
		} {
			s := ordinary()
			*f.of(&s) = n
			want := n >= f.least && n <= f.most
			for range 2 {
				if got := site.Right(s); got != want {
					t.Errorf("Right with %s %d is %t", f.name, n, got)
				}
			}
		}
	}
	if site.Right(api.Site{}) {
		t.Error("the zero value is right")
	}
}

// TestRightCorners: P3.1; no two numbers' bounds hang on one another, and one wrong number is enough.
func TestRightCorners(t *testing.T) {
	for _, s := range corners() {
		if !site.Right(s) {
			t.Fatalf("%+v isn't right", s)
		}
	}
	for _, s := range []api.Site{corners()[1], corners()[len(corners())-1]} {
		for _, f := range fields {
			for _, n := range []int{f.least - 1, f.most + 1} {
				x := s
				*f.of(&x) = n
				if site.Right(x) {
					t.Errorf("Right with %s %d is true", f.name, n)
				}
			}
		}
	}
}

// TestTravel: P3.1, and P1 and P2 of Travel; at all floors, and at numbers that are none.
func TestTravel(t *testing.T) {
	for _, s := range travels() {
		for _, from := range places(s) {
			for _, to := range places(s) {
				got, want := site.Travel(s, from, to), walk(s, from, to)
				if got != want {
					t.Errorf("Travel(%+v, %d, %d) is %d, not %d", s, from, to, got, want)
				}
				if again := site.Travel(s, from, to); again != got {
					t.Errorf("Travel(%+v, %d, %d) is %d, then %d", s, from, to, got, again)
				}
			}
		}
	}
}

// TestTravelByHand: P3.1, without another reckoning.
func TestTravelByHand(t *testing.T) {
	s := ordinary()
	for _, c := range []struct {
		name           string
		from, to, want int
	}{
		{"the document's example", 1, 3, 12},
		{"down takes as long as up", 3, 1, 12},
		{"one floor", 4, 5, 9},
		{"over all floors", 0, 8, 30},
		{"to the same one", 5, 5, 0},
		{"to the floor behind the last one", 0, 9, 0},
		{"from the floor behind the last one", 9, 0, 0},
		{"to the floor below the first one", 3, -1, 0},
		{"from the floor below the first one", -1, 3, 0},
	} {
		if got := site.Travel(s, c.from, c.to); got != c.want {
			t.Errorf("%s: %d, not %d", c.name, got, c.want)
		}
	}
}

// TestTable: P3.1, and P1 and P2 of Table.
func TestTable(t *testing.T) {
	for _, s := range travels() {
		for range 2 {
			table := site.Table(s)
			if len(table) != s.Floors {
				t.Fatalf("of %d floors the table has %d", s.Floors, len(table))
			}
			for from, row := range table {
				if len(row) != s.Floors {
					t.Fatalf("of %d floors the row %d has %d", s.Floors, from, len(row))
				}
				for to, n := range row {
					if n != walk(s, from, to) {
						t.Errorf("in the table of %+v from %d to %d takes %d, not %d", s, from, to, n, walk(s, from, to))
					}
				}
			}
		}
	}
}

// TestTableIsNew: rule 4 of Table; who writes into a table, or behind a row's end, changes no other row and no other table.
func TestTableIsNew(t *testing.T) {
	s := ordinary()
	first, second := site.Table(s), site.Table(s)
	for i, row := range first {
		for j := range row {
			row[j] = -1
		}
		_ = append(row, -2)
		_ = append(row[:0:cap(row)], slices.Repeat([]int{-2}, cap(row))...)
		for from := i + 1; from < len(first); from++ {
			for to, n := range first[from] {
				if n != walk(s, from, to) {
					t.Fatalf("the rows %d and %d share memory", i, from)
				}
			}
		}
	}
	for _, table := range [][][]int{second, site.Table(s)} {
		for from, row := range table {
			for to, n := range row {
				if n != walk(s, from, to) {
					t.Fatalf("two tables share memory: %d to %d takes %d", from, to, n)
				}
			}
		}
	}
}

// holds has holds at what they count as, and beyond it, with what each counts as.
func holds() map[int]int {
	return map[int]int{
		math.MinInt: 0, -1 << 40: 0, -3: 0, -1: 0, 0: 0, 1: 1, 2: 2, 977: 977,
		999999: 999999, 1000000: 1000000, 1000001: 1000000, 1 << 40: 1000000, math.MaxInt: 1000000,
	}
}

// serve counts the ticks of a service one run of the door after the other.
func serve(s api.Site, hold int) int {
	ticks := walk(s, 0, s.Floors-1)
	ticks += s.Open + s.Wait + s.Close + 4
	for range s.Nudge {
		ticks += s.Open + s.Wait + s.Close + 4 + hold
	}
	return ticks
}

// TestServiceAndBound: P3.2, and that each is below the limit (P3.3), and P1 and P2 of both.
func TestServiceAndBound(t *testing.T) {
	for _, s := range append(corners(), travels()...) {
		for hold, counts := range holds() {
			service := serve(s, counts)
			bound := s.Age + 130*service + s.Period
			if service >= api.Limit || bound >= api.Limit {
				t.Fatalf("the service %d, or the bound %d, isn't below the limit", service, bound)
			}
			for range 2 {
				if got := site.Service(s, hold); got != service {
					t.Fatalf("Service(%+v, %d) is %d, not %d", s, hold, got, service)
				}
				if got := site.Bound(s, hold); got != bound {
					t.Fatalf("Bound(%+v, %d) is %d, not %d", s, hold, got, bound)
				}
			}
		}
	}
}

// TestServiceAndBoundByHand: P3.2, without another reckoning.
func TestServiceAndBoundByHand(t *testing.T) {
	s := ordinary()
	never := s
	never.Nudge = 0
	for _, c := range []struct {
		name      string
		got, want int
	}{
		{"a service without holds", site.Service(s, 0), 30 + 26 + 26 + 26},
		{"a service with holds", site.Service(s, 7), 30 + 26 + 33 + 33},
		{"a hold below 0", site.Service(s, -7), 108},
		{"a hold that is too long", site.Service(s, 1000001), 2000108},
		{"a door that nobody holds", site.Service(never, 7), 56},
		{"a bound", site.Bound(s, 7), 500 + 130*122 + 17},
		{"a bound of a door that nobody holds", site.Bound(never, 1000), 500 + 130*56 + 17},
	} {
		if c.got != c.want {
			t.Errorf("%s: %d, not %d", c.name, c.got, c.want)
		}
	}
}

// TestByWay: P3.3; no way round is shorter than the way at once, and every travel is below the limit.
func TestByWay(t *testing.T) {
	for _, s := range travels() {
		table := site.Table(s)
		for from := range s.Floors {
			for to := range s.Floors {
				at := site.Travel(s, from, to)
				if at != table[from][to] || at < 0 || at >= api.Limit {
					t.Fatalf("from %d to %d takes %d, and %d by the table", from, to, at, table[from][to])
				}
				for by := range s.Floors {
					if table[from][by]+table[by][to] < at {
						t.Fatalf("%+v: from %d to %d takes less by way of %d", s, from, to, by)
					}
				}
			}
		}
	}
}

// TestWrongSites: P1 and P2; of a site that isn't right every call ends, and answers alike twice.
func TestWrongSites(t *testing.T) {
	for _, s := range wrong() {
		if site.Right(s) {
			t.Errorf("%+v is right", s)
		}
		if len(site.Table(s)) != len(site.Table(s)) {
			t.Errorf("Table of %+v isn't the same twice", s)
		}
		for _, n := range []int{math.MinInt, -1, 0, 1, 5, s.Floors - 1, s.Floors, math.MaxInt} {
			if site.Service(s, n) != site.Service(s, n) || site.Bound(s, n) != site.Bound(s, n) {
				t.Errorf("Service or Bound of %+v and %d isn't the same twice", s, n)
			}
			for _, m := range []int{math.MinInt, 0, 1, s.Floors - 1, math.MaxInt} {
				if site.Travel(s, n, m) != site.Travel(s, n, m) {
					t.Errorf("Travel of %+v from %d to %d isn't the same twice", s, n, m)
				}
			}
		}
	}
}
