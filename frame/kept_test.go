package frame

import "testing"

// TestFeedKeepsFew: what is left after a long stream is nine bytes at most, without the room of those that are gone.
func TestFeedKeepsFew(t *testing.T) {
	s := &Scanner{}
	for range 3 {
		s.Feed(make([]byte, 1<<20))
		if len(s.left) != 9 || cap(s.left) > 64 {
			t.Fatalf("%d bytes are kept, in a room of %d", len(s.left), cap(s.left))
		}
	}
}
