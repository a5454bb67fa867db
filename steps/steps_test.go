package steps_test

import (
	"testing"

	"comptoir/api"
	"comptoir/steps"
)

func TestWalkTakesStepsUpToOneThatFails(t *testing.T) {
	for fails := range 5 {
		taken := ""
		var all []func() api.Errno
		for i := range 4 {
			all = append(all, func() api.Errno {
				taken += string(rune('a' + i))
				if i >= fails {
					return api.Errno(20 + i)
				}
				return api.OK
			})
		}
		want, through := api.Errno(20+fails), "abcd"[:min(fails+1, 4)]
		if fails == 4 {
			want = api.OK
		}
		if e := steps.Walk(all...); e != want || taken != through {
			t.Errorf("the step %d fails: error %d behind %q; want %d behind %q", fails, e, taken, want, through)
		}
	}
}

func TestWalkOfNoSteps(t *testing.T) {
	if e := steps.Walk(); e != api.OK {
		t.Errorf("error %d", e)
	}
}

func TestUnless(t *testing.T) {
	for _, e := range []api.Errno{api.OK, api.ErrArg, api.ErrTorn} {
		if got := steps.Unless(true, e); got != api.OK {
			t.Errorf("Unless(true, %d): %d", e, got)
		}
		if got := steps.Unless(false, e); got != e {
			t.Errorf("Unless(false, %d): %d", e, got)
		}
	}
}
