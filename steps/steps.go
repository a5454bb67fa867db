// Package steps is what layers share that take a thing step by step.
package steps

import (
	"comptoir/api"
)

// Walk takes the steps, one behind the other, up to one that fails.
func Walk(all ...func() api.Errno) api.Errno {
	for _, take := range all {
		if e := take(); e != api.OK {
			return e
		}
	}
	return api.OK
}

// Unless is e, unless all is right.
func Unless(right bool, e api.Errno) api.Errno {
	if right {
		return api.OK
	}
	return e
}
