// Tests of what steps give up with.
package giveup_test

import (
	"testing"

	"pinstripe/api"
	"pinstripe/giveup"
)

// steps answers 7, unless one of its steps gives up.
func steps(well bool, first, given api.Errno) func() int {
	return func() int {
		giveup.Must(well, api.ErrForm)
		giveup.Pass(first)
		return giveup.Given(7, given)
	}
}

// What is built is answered, or the first error that a step gave up with.
func TestAttempt(t *testing.T) {
	for _, c := range []struct {
		well         bool
		first, given api.Errno
		want         int
		why          api.Errno
	}{
		{true, api.OK, api.OK, 7, api.OK},
		{false, api.ErrLong, api.ErrShort, 0, api.ErrForm},
		{true, api.ErrLong, api.ErrShort, 0, api.ErrLong},
		{true, api.OK, api.ErrShort, 0, api.ErrShort},
	} {
		if got, why := giveup.Attempt(steps(c.well, c.first, c.given)); got != c.want || why != c.why {
			t.Errorf("%+v: %d, %v", c, got, why)
		}
	}
}

// An attempt within another one gives up alone.
func TestAttemptWithin(t *testing.T) {
	got, why := giveup.Attempt(func() int {
		x, inner := giveup.Attempt(steps(false, api.OK, api.OK))
		return x + int(inner)
	})
	if got != int(api.ErrForm) || why != api.OK {
		t.Errorf("%d, %v", got, why)
	}
}

// A panic that no step gave up with goes on.
func TestFault(t *testing.T) {
	defer func() {
		if recover() == nil {
			t.Error("a fault is hidden")
		}
	}()
	giveup.Attempt(func() int {
		var none []int
		return none[len(none)]
	})
}
