package burst

import "testing"

// TestWalksEndWithTheirLoops: a walk that went on behind its loop would panic; each begins anew.
func TestWalksEndWithTheirLoops(t *testing.T) {
	places := differing([]byte{0, 0, 0}, []byte{255, 255, 255})
	sixteen := ones(65535)
	for end := range 17 {
		n := 0
		for place := range places {
			if place == end {
				break
			}
			n++
		}
		for place := range sixteen {
			if place == end {
				break
			}
			n++
		}
		if n != 2*end {
			t.Errorf("both walks up to %d: %d places, want %d", end, n, 2*end)
		}
	}
}
