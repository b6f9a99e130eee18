// Package steps has what layers share that do one thing after another, each of which may fail.
package steps

import "maslin/api"

// Follow does the steps one after another, up to the first error.
func Follow(l ...func() api.Errno) api.Errno {
	for _, step := range l {
		if e := step(); e != api.OK {
			return e
		}
	}
	return api.OK
}
