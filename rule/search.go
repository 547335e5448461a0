package rule

import (
	"errors"

	"kilnfield/api"
)

// search a list for the first thing that is not well: what is said of it, with its place.
func search[T any](l []T, say func(at int, thing T) error) error {
	for at, thing := range l {
		if err := say(at, thing); err != nil {
			return &api.Fault{At: at, Err: err}
		}
	}
	return nil
}

// bare: an error without its place, for where the document tells none.
func bare(err error) error {
	var f *api.Fault
	if errors.As(err, &f) {
		return f.Err
	}
	return err
}
