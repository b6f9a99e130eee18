package steps_test

import (
	"testing"

	"maslin/api"
	"maslin/steps"
)

// The first error ends it, and is the answer; what is behind it is not done.
func TestFollow(t *testing.T) {
	if e := steps.Follow(); e != api.OK {
		t.Errorf("nothing: %v", e)
	}
	for n := range 5 {
		for fails := range n + 1 {
			var l []func() api.Errno
			done := 0
			for i := range n {
				l = append(l, func() api.Errno {
					if i != done {
						t.Errorf("step %d is done as the one at %d", i, done)
					}
					done++
					if i >= fails {
						return api.Errno(40 + i)
					}
					return api.OK
				})
			}
			e := steps.Follow(l...)
			if fails == n {
				if e != api.OK || done != n {
					t.Errorf("%d steps: %v, %d done", n, e, done)
				}
			} else if e != api.Errno(40+fails) || done != fails+1 {
				t.Errorf("step %d of %d fails: %v, %d done", fails, n, e, done)
			}
		}
	}
}
