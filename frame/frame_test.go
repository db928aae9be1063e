package frame_test

import (
	"bytes"
	"math"
	"math/rand"
	"slices"
	"testing"

	"paternoster/api"
	"paternoster/frame"
)

// sumByWords is the check sum as the chapter tells it, in numbers without bits that fall off by themselves.
func sumByWords(b []byte) int {
	sum := 65535
	for _, x := range b {
		sum = (sum/256^int(x))*256 + sum%256
		for i := 0; i < 8; i++ {
			high := sum >= 32768
			sum *= 2
			if high {
				sum ^= 4129
			}
			sum %= 65536
		}
	}
	return sum
}

// sealed gives eight bytes with their check sum behind them.
func sealed(b ...byte) []byte {
	n := sumByWords(b)
	return append(slices.Clone(b), byte(n/256), byte(n%256))
}

// bytesByWords is a right frame's bytes as the chapter tells them.
func bytesByWords(f api.Frame) []byte {
	return sealed(165, byte(f.Kind), byte(f.Car), byte(f.Seq/256), byte(f.Seq%256), byte(f.A), byte(f.B), byte(f.C))
}

// decodeByWords is Decode as P7.1 tells it, in its order.
func decodeByWords(b []byte) (api.Frame, api.Errno) {
	if len(b) != 10 || b[0] != 165 {
		return api.Frame{}, api.ErrForm
	}
	if int(b[8])*256+int(b[9]) != sumByWords(b[:8]) {
		return api.Frame{}, api.ErrSum
	}
	if b[1] != 1 && b[1] != 2 && b[1] != 3 {
		return api.Frame{}, api.ErrForm
	}
	return api.Frame{Kind: int(b[1]), Car: int(b[2]), Seq: int(b[3])*256 + int(b[4]), A: int(b[5]), B: int(b[6]), C: int(b[7])}, api.OK
}

// model is a scanner as P7.2 tells it.
type model struct{ left []byte }

func (m *model) feed(b []byte) (found []api.Frame, passed int) {
	m.left = append(m.left, b...)
	for len(m.left) >= 10 {
		if f, e := decodeByWords(m.left[:10]); e == api.OK {
			found = append(found, f)
			m.left = m.left[10:]
		} else {
			m.left = m.left[1:]
			passed++
		}
	}
	return found, passed
}

// frames has right ones: ordinary, with each number at its bounds, and with heads inside them.
func frames() []api.Frame {
	return []api.Frame{
		{Kind: 1},
		{Kind: 2, Car: 255, Seq: 513, A: 7, B: 1, C: 9},
		{Kind: 3, Car: 255, Seq: 65535, A: 255, B: 255, C: 255},
		{Kind: 1, Car: 7, Seq: 255, A: 63, B: 0, C: 31},
		{Kind: 1, Car: 8, Seq: 256, A: 1, B: 2, C: 3},
		{Kind: 2, Car: 165, Seq: 165<<8 | 165, A: 165, B: 165, C: 165},
		{Kind: 3, Car: 165, Seq: 258, A: 165, B: 1, C: 0},
		{Kind: 3, Seq: 32768, A: 128, B: 127, C: 128},
	}
}

// stream gives the bytes of frames, one behind the other.
func stream(list ...api.Frame) []byte {
	var b []byte
	for _, f := range list {
		b = append(b, bytesByWords(f)...)
	}
	return b
}

// encoded fails, if a frame isn't encoded so.
func encoded(t *testing.T, f api.Frame, want []byte, wantErr api.Errno) {
	t.Helper()
	for range 2 {
		if got, e := frame.Encode(f); e != wantErr || !bytes.Equal(got, want) {
			t.Fatalf("Encode(%+v) is %v, %v, not %v, %v", f, got, e, want, wantErr)
		}
	}
}

// decoded fails, if bytes aren't decoded so, or are changed.
func decoded(t *testing.T, b []byte, want api.Frame, wantErr api.Errno) {
	t.Helper()
	before := slices.Clone(b)
	for range 2 {
		if got, e := frame.Decode(b); e != wantErr || got != want {
			t.Fatalf("Decode(%v) is %+v, %v, not %+v, %v", b, got, e, want, wantErr)
		}
	}
	if !bytes.Equal(b, before) {
		t.Fatalf("Decode changes %v to %v", before, b)
	}
}

// fed fails, if a scanner that is given bytes doesn't answer so.
func fed(t *testing.T, s *frame.Scanner, b []byte, wantPassed int, want ...api.Frame) {
	t.Helper()
	if got, passed := s.Feed(b); passed != wantPassed || !slices.Equal(got, want) {
		t.Fatalf("Feed(%v) is %v, %d, not %v, %d", b, got, passed, want, wantPassed)
	}
}

// TestSumByHand: P7.1: the chapter's example, and sums that are known.
func TestSumByHand(t *testing.T) {
	for _, c := range []struct {
		b    []byte
		want int
	}{
		{nil, 65535},
		{[]byte{}, 65535},
		{[]byte{0}, 0xe1f0},
		{[]byte{255}, 0xff00},
		{[]byte("A"), 0xb915},
		{[]byte("123456789"), 0x29b1},
	} {
		if got := frame.Sum(c.b); got != c.want {
			t.Errorf("Sum(%v) is %#x, not %#x", c.b, got, c.want)
		}
	}
}

// TestSum: P7.1, P1 and P2 of Sum: all bytes, all pairs of them, and long lists, which stay as they are.
func TestSum(t *testing.T) {
	try := func(b ...byte) {
		before := slices.Clone(b)
		for range 2 {
			if got, want := frame.Sum(b), sumByWords(before); got != want {
				t.Fatalf("Sum(%v) is %d, not %d", before, got, want)
			}
		}
		if !bytes.Equal(b, before) {
			t.Fatalf("Sum changes %v to %v", before, b)
		}
	}
	for x := range 256 {
		try(byte(x))
		for y := range 256 {
			try(byte(x), byte(y))
		}
	}
	r := rand.New(rand.NewSource(1))
	for _, n := range []int{3, 8, 9, 10, 255, 256, 257, 65536, 70001} {
		b := make([]byte, n)
		try(b...)
		r.Read(b)
		try(b...)
	}
}

// TestEncode: P7.1: ordinary frames, and each number at its bounds.
func TestEncode(t *testing.T) {
	for _, f := range frames() {
		encoded(t, f, bytesByWords(f), api.OK)
	}
	b, _ := frame.Encode(api.Frame{Kind: 2, Car: 255, Seq: 513, A: 7, B: 1, C: 9})
	if want := []byte{165, 2, 255, 2, 1, 7, 1, 9}; len(b) != api.FrameBytes || !bytes.Equal(b[:8], want) {
		t.Errorf("the bytes are %v, not %v and a sum", b, want)
	}
}

// TestEncodeWrong: P7.1, P1 and rule 2: each number at and beyond its bounds, alone and beside others that are wrong.
func TestEncodeWrong(t *testing.T) {
	numbers := []int{math.MinInt, math.MinInt + 1, -1 << 32, -65536, -256, -255, -1, 0, 1, 2, 3, 4, 5, 254, 255, 256, 257, 258, 511, 512, 32767, 32768, 65535, 65536, 65537, 1<<32 - 1, 1 << 32, 1<<32 + 1, 1<<32 + 2, math.MaxInt - 1, math.MaxInt}
	parts := []struct {
		name      string
		low, high int
		of        func(*api.Frame) *int
	}{
		{"Kind", 1, 3, func(f *api.Frame) *int { return &f.Kind }},
		{"Car", 0, 255, func(f *api.Frame) *int { return &f.Car }},
		{"Seq", 0, 65535, func(f *api.Frame) *int { return &f.Seq }},
		{"A", 0, 255, func(f *api.Frame) *int { return &f.A }},
		{"B", 0, 255, func(f *api.Frame) *int { return &f.B }},
		{"C", 0, 255, func(f *api.Frame) *int { return &f.C }},
	}
	right := api.Frame{Kind: 2, Car: 3, Seq: 400, A: 5, B: 6, C: 7}
	for _, part := range parts {
		for _, n := range numbers {
			f := right
			*part.of(&f) = n
			ok := n >= part.low && n <= part.high
			if ok {
				encoded(t, f, bytesByWords(f), api.OK)
			} else {
				encoded(t, f, nil, api.ErrArg)
			}
			for _, other := range parts {
				for _, wrong := range []int{-1, other.high + 1, math.MaxInt} {
					g := f
					*other.of(&g) = wrong
					encoded(t, g, nil, api.ErrArg)
				}
			}
		}
	}
	encoded(t, api.Frame{}, nil, api.ErrArg)
}

// TestEncodeNewMemory: P2 and rule 4: what one does to an answer is no other one's.
func TestEncodeNewMemory(t *testing.T) {
	for _, f := range frames() {
		want := bytesByWords(f)
		first, _ := frame.Encode(f)
		second, _ := frame.Encode(f)
		for i := range first {
			first[i]++
		}
		_ = append(first, 1, 2, 3)
		if !bytes.Equal(second, want) {
			t.Fatalf("two answers share memory: %v", second)
		}
		encoded(t, f, want, api.OK)
	}
}

// TestRound: P7.1: Decode gives back what Encode was given, at each value of each number.
func TestRound(t *testing.T) {
	round := func(f api.Frame) {
		b, e := frame.Encode(f)
		if e != api.OK {
			t.Fatalf("Encode(%+v) is %v", f, e)
		}
		if got, e := frame.Decode(b); e != api.OK || got != f {
			t.Fatalf("%+v comes back as %+v, %v", f, got, e)
		}
	}
	for n := range 65536 {
		round(api.Frame{Kind: 1 + n%3, Car: n % 251, Seq: n, A: n % 7, B: n % 11, C: n % 13})
	}
	for n := range 256 {
		for kind := 1; kind <= 3; kind++ {
			round(api.Frame{Kind: kind, Car: n})
			round(api.Frame{Kind: kind, A: n})
			round(api.Frame{Kind: kind, B: n})
			round(api.Frame{Kind: kind, C: n})
		}
	}
}

// TestDecodeOrder: P7.1 and rule 1: each fault alone, and those that are there at once.
func TestDecodeOrder(t *testing.T) {
	right := bytesByWords(api.Frame{Kind: 2, Car: 255, Seq: 513, A: 7, B: 1, C: 9})
	turned := func(turn func(b []byte)) []byte {
		b := slices.Clone(right)
		turn(b)
		return b
	}
	for _, c := range []struct {
		name string
		b    []byte
		want api.Errno
	}{
		{"nil", nil, api.ErrForm},
		{"empty", []byte{}, api.ErrForm},
		{"the head alone", []byte{165}, api.ErrForm},
		{"eight bytes", right[:8], api.ErrForm},
		{"nine bytes", right[:9], api.ErrForm},
		{"nine bytes with their sum", append(slices.Clone(right[:7]), byte(sumByWords(right[:7])>>8), byte(sumByWords(right[:7]))), api.ErrForm},
		{"a frame and a byte", append(slices.Clone(right), 0), api.ErrForm},
		{"a byte and a frame", append([]byte{165}, right...), api.ErrForm},
		{"two frames", append(slices.Clone(right), right...), api.ErrForm},
		{"another head, its sum right", sealed(164, 2, 255, 2, 1, 7, 1, 9), api.ErrForm},
		{"another head, its sum wrong", turned(func(b []byte) { b[0] = 166 }), api.ErrForm},
		{"no head", make([]byte, 10), api.ErrForm},
		{"a wrong sum", turned(func(b []byte) { b[7]++ }), api.ErrSum},
		{"the sum's bytes turned", turned(func(b []byte) { b[8], b[9] = b[9], b[8] }), api.ErrSum},
		{"a wrong sum and the kind 0", turned(func(b []byte) { b[1] = 0 }), api.ErrSum},
		{"a wrong sum and the kind 4", turned(func(b []byte) { b[1] = 4 }), api.ErrSum},
		{"the kind 0", sealed(165, 0, 255, 2, 1, 7, 1, 9), api.ErrForm},
		{"the kind 4", sealed(165, 4, 255, 2, 1, 7, 1, 9), api.ErrForm},
		{"the kind 255", sealed(165, 255, 255, 2, 1, 7, 1, 9), api.ErrForm},
	} {
		if got, e := frame.Decode(c.b); e != c.want || got != (api.Frame{}) {
			t.Errorf("%s: %+v, %v, not %v", c.name, got, e, c.want)
		}
		decoded(t, c.b, api.Frame{}, c.want)
	}
	decoded(t, right, api.Frame{Kind: 2, Car: 255, Seq: 513, A: 7, B: 1, C: 9}, api.OK)
}

// TestDecodeNear: P7.1: each value of each byte, each sum, and each kind with its right sum.
func TestDecodeNear(t *testing.T) {
	for _, f := range frames() {
		right := bytesByWords(f)
		for i := range right {
			for x := range 256 {
				b := slices.Clone(right)
				b[i] = byte(x)
				want, e := decodeByWords(b)
				decoded(t, b, want, e)
				want, e = decodeByWords(sealed(b[:8]...))
				decoded(t, sealed(b[:8]...), want, e)
			}
		}
		b := slices.Clone(right)
		for sum := range 65536 {
			b[8], b[9] = byte(sum/256), byte(sum%256)
			got, e := frame.Decode(b)
			if right := bytes.Equal(b, right); right && (e != api.OK || got != f) || !right && (e != api.ErrSum || got != api.Frame{}) {
				t.Fatalf("%+v with the sum %d: %+v, %v", f, sum, got, e)
			}
		}
	}
}

// TestDecodeLengths: P7.1 and P1: bytes of any number, with and without a head.
func TestDecodeLengths(t *testing.T) {
	r := rand.New(rand.NewSource(2))
	for n := range 64 {
		for range 50 {
			b := make([]byte, n)
			r.Read(b)
			want, e := decodeByWords(b)
			decoded(t, b, want, e)
			if n > 0 {
				b[0] = 165
				want, e = decodeByWords(b)
				decoded(t, b, want, e)
			}
		}
	}
}

// TestFeedByHand: P7.2: nothing, nine bytes, ten that are none, and frames between bytes that are none.
func TestFeedByHand(t *testing.T) {
	one := api.Frame{Kind: 2, Car: 255, Seq: 513, A: 7, B: 1, C: 9}
	two := api.Frame{Kind: 1, Car: 3, Seq: 4, A: 5, B: 6, C: 7}
	b := stream(one)

	s := &frame.Scanner{}
	fed(t, s, nil, 0)
	fed(t, s, []byte{}, 0)
	fed(t, s, make([]byte, 9), 0)
	fed(t, s, nil, 0)
	fed(t, s, []byte{0}, 1)
	fed(t, s, nil, 0)
	fed(t, s, b[:1], 1)
	fed(t, s, b[1:9], 8)
	fed(t, s, b[9:], 0, one)
	fed(t, s, nil, 0)
	fed(t, s, stream(two, one, one), 0, two, one, one)
	fed(t, s, stream(two)[:9], 0)
	fed(t, s, stream(two)[9:], 0, two)

	var zero frame.Scanner
	fed(t, &zero, append([]byte{1, 165, 2}, b[:5]...), 0)
	fed(t, &zero, append(slices.Clone(b[5:]), b...), 3, one, one)

	late := &frame.Scanner{}
	fed(t, late, slices.Concat([]byte{165, 165}, b, []byte{165}, stream(two), b[:4]), 3, one, two)
	fed(t, late, b[4:], 0, one)
}

// TestFeedPassesOneByte: P7.2: where ten bytes are no frame one byte alone goes, wherever the next frame begins among them.
func TestFeedPassesOneByte(t *testing.T) {
	right := api.Frame{Kind: 1, Car: 2, Seq: 3, A: 4, B: 5, C: 6}
	spoilt := map[string][]byte{
		"a wrong sum":   append(slices.Clone(stream(right)[:9]), stream(right)[9]+1),
		"a wrong kind":  sealed(165, 4, 0, 0, 0, 0, 0, 0),
		"the kind 0":    sealed(165, 0, 0, 0, 0, 0, 0, 0),
		"another head":  sealed(164, 1, 0, 0, 0, 0, 0, 0),
		"heads alone":   bytes.Repeat([]byte{165}, 10),
		"nothing in it": make([]byte, 10),
	}
	for name, bad := range spoilt {
		for cut := range 11 {
			s := &frame.Scanner{}
			got, passed := s.Feed(append(slices.Clone(bad[:cut]), stream(right)...))
			if passed != cut || !slices.Equal(got, []api.Frame{right}) {
				t.Errorf("%s, %d bytes of it: %v, %d", name, cut, got, passed)
			}
		}
	}
}

// TestFeedOverlap: P7.2: of two frames that share bytes the first one is answered, and what it leaves of the other isn't one.
func TestFeedOverlap(t *testing.T) {
	first := api.Frame{Kind: 1, Car: 2, Seq: 3, A: 165, B: 2, C: 9}
	b := stream(first)
	second := sealed(append(slices.Clone(b[5:]), 10, 11, 12)...)
	both := append(slices.Clone(b), second[5:]...)
	want, e := decodeByWords(second)
	if e != api.OK {
		t.Fatalf("the second one is %v", e)
	}

	s := &frame.Scanner{}
	fed(t, s, both, 0, first)
	fed(t, s, stream(first), 5, first)

	spoilt := slices.Clone(both)
	spoilt[2]++
	fed(t, &frame.Scanner{}, spoilt, 5, want)
	fed(t, &frame.Scanner{}, both[1:], 4, want)
}

// TestFeedCuts: P7.2: a stream in two pieces, at each place, and byte by byte, gives what it gives as a whole.
func TestFeedCuts(t *testing.T) {
	b := slices.Concat([]byte{165, 3}, stream(frames()...), []byte{7, 165, 165}, stream(frames()...), make([]byte, 12), []byte{165, 1})
	whole, passed := (&model{}).feed(b)
	if len(whole) < len(frames()) {
		t.Fatalf("the stream has %d frames alone", len(whole))
	}
	for cut := range len(b) + 1 {
		s := &frame.Scanner{}
		got, n := s.Feed(b[:cut])
		more, m := s.Feed(b[cut:])
		if all := slices.Concat(got, more); n+m != passed || !slices.Equal(all, whole) {
			t.Fatalf("cut at %d: %v, %d and %d", cut, all, n, m)
		}
	}
	s, m := &frame.Scanner{}, &model{}
	for i := range b {
		want, n := m.feed(b[i : i+1])
		fed(t, s, b[i:i+1], n, want...)
	}
}

// noise gives a stream of frames, spoilt frames and other bytes, with many heads among them.
func noise(r *rand.Rand, pieces int) []byte {
	var b []byte
	for range pieces {
		f := api.Frame{Kind: 1 + r.Intn(3), Car: r.Intn(256), Seq: r.Intn(65536), A: r.Intn(256), B: r.Intn(256), C: r.Intn(256)}
		if r.Intn(3) == 0 {
			f.Car, f.A = 165, 165
		}
		one := bytesByWords(f)
		switch r.Intn(6) {
		case 0:
			one[r.Intn(10)] ^= 1 << r.Intn(8)
		case 1:
			one = one[:r.Intn(10)]
		case 2:
			one = sealed(slices.Concat([]byte{165, byte(r.Intn(256))}, one[2:8])...)
		case 3:
			for range r.Intn(12) {
				b = append(b, []byte{0, 1, 2, 3, 165, 165, 255}[r.Intn(7)])
			}
		}
		b = append(b, one...)
	}
	return b
}

// TestFeedAlong: P7.2, P1 and P2: long streams in pieces of any length, beside the model; two scanners in step answer alike.
func TestFeedAlong(t *testing.T) {
	found := 0
	for seed := range 200 {
		r := rand.New(rand.NewSource(int64(seed)))
		b := noise(r, 60)
		s, other, m := &frame.Scanner{}, &frame.Scanner{}, &model{}
		for len(b) > 0 {
			n := min(len(b), r.Intn(1+r.Intn(35)))
			want, passed := m.feed(b[:n])
			fed(t, s, b[:n], passed, want...)
			fed(t, other, b[:n], passed, want...)
			b = b[n:]
			found += len(want)
		}
	}
	if found < 1000 {
		t.Errorf("the streams had %d frames alone", found)
	}
}

// TestFeedGreat: P7.2 and P1: many bytes at once, of frames, of heads alone, and of none.
func TestFeedGreat(t *testing.T) {
	right := api.Frame{Kind: 3, Car: 1, Seq: 2, A: 3, B: 4, C: 5}
	s := &frame.Scanner{}
	got, passed := s.Feed(bytes.Repeat(stream(right), 20000))
	if len(got) != 20000 || passed != 0 || slices.ContainsFunc(got, func(f api.Frame) bool { return f != right }) {
		t.Errorf("%d frames, %d passed over", len(got), passed)
	}
	fed(t, s, bytes.Repeat([]byte{165}, 200000), 200000-9)
	fed(t, s, make([]byte, 200000), 200000)
	fed(t, s, stream(right), 9, right)
}

// TestFeedKeepsNothing: rule 4: what was handed in isn't changed, nor what lies behind it, and what becomes of it later is all one.
func TestFeedKeepsNothing(t *testing.T) {
	one, two := frames()[1], frames()[3]
	room := slices.Concat([]byte{9}, stream(one, two)[:15], bytes.Repeat([]byte{77}, 30))
	b := room[:16]
	before := slices.Clone(room)
	s := &frame.Scanner{}
	fed(t, s, b, 1, one)
	if !bytes.Equal(room, before) {
		t.Fatalf("Feed changes %v to %v", before, room)
	}
	for i := range room {
		room[i] = 200
	}
	rest := slices.Concat(stream(two)[5:], bytes.Repeat([]byte{77}, 30))
	fed(t, s, rest[:5], 0, two)
	if !bytes.Equal(rest[5:], bytes.Repeat([]byte{77}, 30)) {
		t.Fatalf("Feed writes behind what it is given: %v", rest)
	}
}

// TestFeedNewMemory: rule 4: what one does to an answer is no later answer's.
func TestFeedNewMemory(t *testing.T) {
	one, two := frames()[1], frames()[3]
	s := &frame.Scanner{}
	first, _ := s.Feed(stream(one, one, one))
	second, _ := s.Feed(stream(two, two))
	first = append(first[:1], one, one, one, one)
	for i := range first {
		first[i] = api.Frame{}
	}
	if !slices.Equal(second, []api.Frame{two, two}) {
		t.Errorf("two answers share memory: %v", second)
	}
	fed(t, s, stream(one), 0, one)
}

// TestScannersApart: P2: what one scanner was given is nothing to another one, nor is a call of another function between.
func TestScannersApart(t *testing.T) {
	one, two := frames()[1], frames()[3]
	a, b := &frame.Scanner{}, &frame.Scanner{}
	fed(t, a, stream(one)[:6], 0)
	fed(t, b, stream(two)[:6], 0)
	frame.Sum(stream(two))
	frame.Decode(stream(two))
	frame.Encode(two)
	fed(t, a, stream(one)[6:], 0, one)
	fed(t, b, stream(two)[6:], 0, two)
	fed(t, &frame.Scanner{}, stream(one)[6:], 0)
}
