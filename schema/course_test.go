package schema

import "testing"

// What isn't left by what can't be read is a fault of the program: it must be seen.
func TestOtherPanicGoesOn(t *testing.T) {
	for _, why := range []any{"a fault", 7, struct{}{}} {
		func() {
			defer func() {
				if p := recover(); p != why {
					t.Errorf("%v comes out as %v", why, p)
				}
			}()
			reading(nil, func(*course) int { panic(why) })
			t.Errorf("%v is swallowed", why)
		}()
	}
}
