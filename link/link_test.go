package link_test

import (
	"math"
	"math/rand"
	"testing"

	"paternoster/api"
	"paternoster/link"
)

// model is a link as P8.1 and P8.2 tell it: all that was taken, and how many ticks had passed by then.
type model struct {
	taken []int
	since []int
	now   int
}

// newerByWords tells whether a number is 1 to 32,767 above the last one, modulo 65,536.
func newerByWords(last, seq int) bool {
	return (seq-last+65536)%65536 >= 1 && (seq-last+65536)%65536 <= 32767
}

func (m *model) take(seq int) api.Errno {
	if seq < 0 || seq > 65535 {
		return api.ErrArg
	}
	if n := len(m.taken); n > 0 && !newerByWords(m.taken[n-1], seq) {
		return api.ErrOld
	}
	m.taken, m.since = append(m.taken, seq), append(m.since, m.now)
	return api.OK
}

func (m *model) silent() int {
	if len(m.since) == 0 {
		return -1
	}
	return m.now - m.since[len(m.since)-1]
}

func (m *model) live(ticks int) bool { return len(m.taken) > 0 && m.silent() < ticks }

// wrongSeqs has numbers that no sender gives.
func wrongSeqs() []int {
	return []int{-1, 65536, 65537, -65536, 131072, -32768, 1 << 32, math.MinInt, math.MaxInt, math.MinInt + 65536}
}

// at gives a link on which a number was taken, and then some ticks passed.
func at(t *testing.T, seq, ticks int) *link.Link {
	t.Helper()
	l := link.New()
	if e := l.Take(seq); e != api.OK {
		t.Fatalf("the first number %d: %d", seq, e)
	}
	for range ticks {
		l.Tick()
	}
	return l
}

// TestNew: P8.1, P8.2: on a new link nothing was taken, however many ticks pass and whatever wrong number comes.
func TestNew(t *testing.T) {
	l := link.New()
	for i := range 5 {
		if got := l.Silent(); got != -1 {
			t.Errorf("after %d ticks: silent for %d", i, got)
		}
		for _, ticks := range []int{math.MinInt, -2, -1, 0, 1, 2, 1 << 40, math.MaxInt} {
			if l.Live(ticks) {
				t.Errorf("after %d ticks: live within %d", i, ticks)
			}
		}
		for _, seq := range wrongSeqs() {
			if e := l.Take(seq); e != api.ErrArg {
				t.Errorf("%d: %d, not ErrArg", seq, e)
			}
		}
		l.Tick()
	}
}

// TestFirst: P8.1: the first number is always newer, each one of them; and the ticks ahead of it don't count.
func TestFirst(t *testing.T) {
	for seq := range 65536 {
		l := link.New()
		l.Tick()
		l.Tick()
		if e := l.Take(seq); e != api.OK || l.Silent() != 0 {
			t.Fatalf("%d: %d, silent for %d", seq, e, l.Silent())
		}
		if e := l.Take(seq); e != api.ErrOld {
			t.Fatalf("%d again: %d, not ErrOld", seq, e)
		}
	}
}

// TestNewer: P8.1: each number against the last one, at many last ones, the ends of the round among them.
func TestNewer(t *testing.T) {
	for _, last := range []int{0, 1, 2, 255, 256, 32766, 32767, 32768, 32769, 40000, 65000, 65533, 65534, 65535} {
		for seq := range 65536 {
			want := api.ErrOld
			if newerByWords(last, seq) {
				want = api.OK
			}
			l := at(t, last, 0)
			if e := l.Take(seq); e != want {
				t.Fatalf("%d after %d: %d, not %d", seq, last, e, want)
			}
		}
	}
}

// TestByHand: P8.1: the chapter's example, and the edges of what is newer.
func TestByHand(t *testing.T) {
	for _, c := range []struct {
		last, seq int
		want      api.Errno
	}{
		{65535, 0, api.OK},
		{0, 65535, api.ErrOld},
		{7, 7, api.ErrOld},
		{7, 8, api.OK},
		{7, 6, api.ErrOld},
		{0, 32767, api.OK},
		{0, 32768, api.ErrOld},
		{0, 32769, api.ErrOld},
		{32768, 65535, api.OK},
		{32768, 0, api.ErrOld},
		{32769, 0, api.OK},
		{65535, 32766, api.OK},
		{65535, 32767, api.ErrOld},
		{7, -1, api.ErrArg},
		{7, 65536, api.ErrArg},
		{65535, 65536, api.ErrArg},
		{65535, 65537, api.ErrArg},
		{65535, -65536, api.ErrArg},
	} {
		if e := at(t, c.last, 0).Take(c.seq); e != c.want {
			t.Errorf("%d after %d: %d, not %d", c.seq, c.last, e, c.want)
		}
	}
}

// TestRefused: rule 7, and P8.1: what is refused changes neither the last number nor the ticks since.
func TestRefused(t *testing.T) {
	for _, seq := range append(wrongSeqs(), 500, 499, 0, 65535, 500+32768) {
		l := at(t, 500, 3)
		if e := l.Take(seq); e == api.OK {
			t.Errorf("%d after 500 is taken", seq)
		}
		if got := l.Silent(); got != 3 {
			t.Errorf("after %d is refused: silent for %d, not 3", seq, got)
		}
		if e := l.Take(500 + 32767); e != api.OK {
			t.Errorf("after %d is refused: the farthest newer one: %d", seq, e)
		}
		l = at(t, 500, 3)
		l.Take(seq)
		if e := l.Take(501); e != api.OK || l.Silent() != 0 {
			t.Errorf("after %d is refused: the next one: %d, silent for %d", seq, e, l.Silent())
		}
	}
}

// TestRounds: P8.1: numbers are taken round and round, and the one ahead of the last one is always old.
func TestRounds(t *testing.T) {
	for _, step := range []int{1, 2, 3, 21845, 32766, 32767} {
		l := at(t, 0, 0)
		for i := 1; i <= 140000; i++ {
			if e := l.Take(i * step % 65536); e != api.OK {
				t.Fatalf("%d steps of %d: %d", i, step, e)
			}
			if e := l.Take((i - 1) * step % 65536); e != api.ErrOld {
				t.Fatalf("%d steps of %d, and one back: %d", i, step, e)
			}
		}
	}
}

// TestSilent: P8.2: the ticks since the last number that was taken; live is below, not at.
func TestSilent(t *testing.T) {
	l := at(t, 9, 0)
	for passed := range 300 {
		if got := l.Silent(); got != passed {
			t.Fatalf("after %d ticks: silent for %d", passed, got)
		}
		for ticks, want := range map[int]bool{
			math.MinInt: false, -1: false, 0: false, passed: false,
			passed + 1: true, passed + 2: true, 1 << 40: true, math.MaxInt: true,
		} {
			if got := l.Live(ticks); got != want {
				t.Fatalf("after %d ticks: live within %d: %v", passed, ticks, got)
			}
		}
		l.Tick()
	}
	if e := l.Take(10); e != api.OK || l.Silent() != 0 || l.Live(0) || !l.Live(1) {
		t.Errorf("the next number: %d, silent for %d", e, l.Silent())
	}
}

// TestApart: P2: links know nothing of one another, and the same calls give the same answers.
func TestApart(t *testing.T) {
	a, b, c := at(t, 5, 2), link.New(), at(t, 40000, 7)
	if a.Silent() != 2 || b.Silent() != -1 || c.Silent() != 7 {
		t.Errorf("silent for %d, %d, %d", a.Silent(), b.Silent(), c.Silent())
	}
	if a.Take(6) != api.OK || b.Take(5) != api.OK || c.Take(6) != api.OK || c.Take(5) != api.ErrOld {
		t.Error("one link's numbers are another one's")
	}
	if a.Silent() != 0 || a.Silent() != 0 || !a.Live(1) || !a.Live(1) {
		t.Error("asked twice, another answer")
	}
}

// number gives a number for a link whose last one is known: near it, at the edges of what is newer, or any.
func number(r *rand.Rand, last int) int {
	switch r.Intn(6) {
	case 0:
		return wrongSeqs()[r.Intn(len(wrongSeqs()))]
	case 1:
		return (last + 32766 + r.Intn(4)) % 65536
	case 2:
		return r.Intn(65536)
	}
	return (last + 65536 - 2 + r.Intn(6)) % 65536
}

// TestWalks: P8.1, P8.2, P1 and P2: long walks, held to the model, two links in step.
func TestWalks(t *testing.T) {
	r := rand.New(rand.NewSource(8))
	for range 200 {
		m, l, twin := &model{}, link.New(), link.New()
		for range 400 {
			if r.Intn(3) == 0 {
				l.Tick()
				twin.Tick()
				m.now++
			} else {
				last := 0
				if n := len(m.taken); n > 0 {
					last = m.taken[n-1]
				}
				seq := number(r, last)
				want := m.take(seq)
				if e, f := l.Take(seq), twin.Take(seq); e != want || f != want {
					t.Fatalf("%d after %d: %d and %d, not %d", seq, last, e, f, want)
				}
			}
			ticks := r.Intn(8) - 1
			if l.Silent() != m.silent() || twin.Silent() != m.silent() || l.Live(ticks) != m.live(ticks) || twin.Live(ticks) != m.live(ticks) {
				t.Fatalf("silent for %d and %d, not %d; live within %d: %v", l.Silent(), twin.Silent(), m.silent(), ticks, l.Live(ticks))
			}
		}
	}
}
