package floors_test

import (
	"math"
	"slices"
	"testing"

	"paternoster/floors"
)

// numbers has every floor, its neighbours, and numbers that are far from all floors.
func numbers() []int {
	list := []int{math.MinInt, math.MinInt + 1, -1 << 32, -64, math.MaxInt, math.MaxInt - 1, 1 << 32, 1<<32 + 3, 1000, 256, 128}
	for n := -3; n <= 67; n++ {
		list = append(list, n)
	}
	return list
}

// sets has sets with no floor, with one, with few, with all but few, with all.
func sets() []floors.Set {
	list := []floors.Set{
		0, 1, 1 << 63, 1<<63 | 1, 1<<63 | 9, 1<<3 | 1<<7, 1<<31 | 1<<32,
		0x5555555555555555, 0xaaaaaaaaaaaaaaaa, 0xfedcba9876543210,
		1<<64 - 1, 1<<64 - 2, 1<<63 - 1,
	}
	for n := range 64 {
		list = append(list, 1<<n, ^floors.Set(1<<n))
	}
	return list
}

// members tells a set's floors by its bits alone.
func members(s floors.Set) []int {
	var list []int
	for n := range 64 {
		if s>>n%2 == 1 {
			list = append(list, n)
		}
	}
	return list
}

func isFloor(n int) bool { return n >= 0 && n <= 63 }

func listed(all func(func(int) bool)) []int {
	var list []int
	for floor := range all {
		list = append(list, floor)
	}
	return list
}

// TestOf: P2.1, and P1 and P2 of Of.
func TestOf(t *testing.T) {
	for _, c := range []struct {
		list []int
		want floors.Set
	}{
		{nil, 0},
		{[]int{}, 0},
		{[]int{0}, 1},
		{[]int{63}, 1 << 63},
		{[]int{3, 63, 0, 64, -1, 3}, 1<<63 | 9},
		{[]int{64, -1, math.MaxInt, math.MinInt, 1 << 32, -64}, 0},
	} {
		kept := slices.Clone(c.list)
		for range 2 {
			if got := floors.Of(c.list...); got != c.want {
				t.Errorf("Of(%v) is %x, not %x", c.list, got, c.want)
			}
		}
		if !slices.Equal(c.list, kept) {
			t.Errorf("Of changed %v to %v", kept, c.list)
		}
	}
	for _, s := range sets() {
		if got := floors.Of(members(s)...); got != s {
			t.Errorf("Of(%v) is %x", members(s), got)
		}
	}
}

// TestTo: P2.1, and P1 and P2 of To.
func TestTo(t *testing.T) {
	for _, n := range numbers() {
		var want floors.Set
		for floor := range 64 {
			if floor < n {
				want |= 1 << floor
			}
		}
		for range 2 {
			if got := floors.To(n); got != want {
				t.Errorf("To(%d) is %x, not %x", n, got, want)
			}
		}
	}
}

// TestOne: P2.1, and P1 and P2 of Has, With, Without.
func TestOne(t *testing.T) {
	for _, s := range sets() {
		in := members(s)
		for _, n := range numbers() {
			with, without := s, s
			if isFloor(n) {
				with |= 1 << n
				without &^= 1 << n
			}
			for range 2 {
				if got := s.Has(n); got != slices.Contains(in, n) {
					t.Errorf("%x has %d: %t", s, n, got)
				}
				if got := s.With(n); got != with {
					t.Errorf("%x with %d is %x", s, n, got)
				}
				if got := s.Without(n); got != without {
					t.Errorf("%x without %d is %x", s, n, got)
				}
			}
		}
	}
}

// TestLen: P2.1, and P1 and P2 of Len.
func TestLen(t *testing.T) {
	for _, s := range sets() {
		for range 2 {
			if got := s.Len(); got != len(members(s)) {
				t.Errorf("%x has %d floors", s, got)
			}
		}
	}
}

// TestUpDown: P2.2, and P1 and P2 of Up, Down; a sequence may be gone through twice.
func TestUpDown(t *testing.T) {
	for _, s := range sets() {
		for _, from := range numbers() {
			var above, below []int
			for _, floor := range members(s) {
				if floor >= from {
					above = append(above, floor)
				}
				if floor <= from {
					below = append(below, floor)
				}
			}
			slices.Reverse(below)
			up, down := s.Up(from), s.Down(from)
			for range 2 {
				if got := listed(up); !slices.Equal(got, above) {
					t.Errorf("%x up from %d: %v", s, from, got)
				}
				if got := listed(down); !slices.Equal(got, below) {
					t.Errorf("%x down from %d: %v", s, from, got)
				}
			}
		}
	}
}

// TestUpDownEnd: P2.2: nothing more is handed on behind a false.
func TestUpDownEnd(t *testing.T) {
	s := floors.Of(0, 3, 7, 31, 63)
	for name, all := range map[string]func(func(int) bool){"up": s.Up(0), "down": s.Down(63)} {
		whole := listed(all)
		for most := 1; most <= len(whole)+1; most++ {
			var got []int
			all(func(floor int) bool {
				got = append(got, floor)
				return len(got) < most
			})
			if !slices.Equal(got, whole[:min(most, len(whole))]) {
				t.Errorf("%s, left behind %d: %v", name, most, got)
			}
		}
	}
}

// apart is exact whatever the number, as the difference of two ints fits in 64 bits without a sign.
func apart(a, b int) uint64 {
	if a < b {
		a, b = b, a
	}
	return uint64(a) - uint64(b)
}

// TestNearest: P2.2, and P1 and P2 of Nearest.
func TestNearest(t *testing.T) {
	for _, s := range sets() {
		for _, n := range numbers() {
			want, any := 0, false
			for _, floor := range members(s) {
				if !any || apart(floor, n) < apart(want, n) {
					want, any = floor, true
				}
			}
			for range 2 {
				if got, ok := s.Nearest(n); got != want || ok != any {
					t.Errorf("nearest to %d in %x: %d %t, not %d %t", n, s, got, ok, want, any)
				}
			}
		}
	}
}

// TestNearestByHand: P2.2, with the document's example: of two the lower one.
func TestNearestByHand(t *testing.T) {
	s := floors.Of(3, 7)
	for _, c := range [][2]int{{5, 3}, {6, 7}, {4, 3}, {7, 7}, {3, 3}, {math.MinInt, 3}, {-1, 3}, {64, 7}, {math.MaxInt, 7}} {
		if got, ok := s.Nearest(c[0]); got != c[1] || !ok {
			t.Errorf("nearest to %d: %d %t, not %d", c[0], got, ok, c[1])
		}
	}
	if got, ok := floors.Set(0).Nearest(5); got != 0 || ok {
		t.Errorf("nearest in none: %d %t", got, ok)
	}
}
