// Package giveup lets what is built in many steps end at the first one that may not be: a step gives up by a panic with an error, and Attempt, which all of them run in, answers it.
package giveup

import "pinstripe/api"

// Attempt answers what is built; or nothing, and why its building gave up. A panic with anything else is a fault of the program, and goes on.
func Attempt[T any](build func() T) (built T, why api.Errno) {
	defer func() {
		switch gave := recover().(type) {
		case nil:
		case api.Errno:
			why = gave
		default:
			panic(gave)
		}
	}()
	return build(), api.OK
}

// Pass gives up with an error, unless it is OK.
func Pass(why api.Errno) {
	if why != api.OK {
		panic(why)
	}
}

// Must gives up with an error, unless all is well.
func Must(well bool, why api.Errno) {
	if !well {
		Pass(why)
	}
}

// Given answers what a call answered, or gives up with its error.
func Given[T any](x T, why api.Errno) T {
	Pass(why)
	return x
}
