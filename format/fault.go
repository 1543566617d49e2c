package format

import (
	"strconv"

	"mullion/api"
)

// A fault is why a text says nothing.
type fault struct{ errno api.Errno }

func (f fault) Error() string { return "error " + strconv.Itoa(int(f.errno)) }

// A within is a fault that was found in a place, with the inside of that place.
type within struct {
	inside string
	cause  error
}

func (w within) Error() string { return "in #{" + w.inside + "}: " + w.cause.Error() }

func (w within) Unwrap() error { return w.cause }
