// Package given tests what packages api and plain hold, from outside, so that their folders stay as they were given.
package given

import (
	"errors"
	"testing"

	"kilnfield/api"
	"kilnfield/plain"
)

// P5: the bounds have their numbers.
func TestBounds(t *testing.T) {
	for _, c := range []struct {
		name      string
		got, want int
	}{
		{"MaxName", api.MaxName, 12},
		{"MaxParts", api.MaxParts, 5},
		{"MaxBytes", api.MaxBytes, 2000},
		{"MaxFiles", api.MaxFiles, 60},
		{"MaxRules", api.MaxRules, 40},
		{"MaxInputs", api.MaxInputs, 8},
		{"MaxText", api.MaxText, 10000},
		{"MaxEntries", api.MaxEntries, 100},
		{"MaxSteps", api.MaxSteps, 3000},
		{"MaxLines", api.MaxLines, 100},
		{"Workers", api.Workers, 16},
	} {
		if c.got != c.want {
			t.Errorf("%s is %d, not %d", c.name, c.got, c.want)
		}
	}
}

// P5: the errors have their texts, and plain tells each by its number, with a place or without.
func TestErrors(t *testing.T) {
	for i, c := range []struct {
		err  error
		text string
	}{
		{api.ErrText, "text"},
		{api.ErrBound, "bound"},
		{api.ErrShape, "shape"},
		{api.ErrName, "name"},
		{api.ErrKind, "kind"},
		{api.ErrNone, "none"},
		{api.ErrExist, "exist"},
		{api.ErrFull, "full"},
		{api.ErrCycle, "cycle"},
		{api.ErrLong, "long"},
		{api.ErrTurn, "turn"},
		{api.ErrDone, "done"},
	} {
		if c.err.Error() != "kilnfield: "+c.text {
			t.Errorf("error %d tells %q", i+1, c.err)
		}
		if code, at := plain.Code(c.err); code != i+1 || at != -1 {
			t.Errorf("%v: code %d at %d", c.err, code, at)
		}
		if code, at := plain.Code(&api.Fault{At: 7, Err: c.err}); code != i+1 || at != 7 {
			t.Errorf("%v with a place: code %d at %d", c.err, code, at)
		}
	}
	if code, at := plain.Code(nil); code != 0 || at != -1 {
		t.Errorf("nil: code %d at %d", code, at)
	}
	if code, at := plain.Code(errors.New("another")); code != -1 || at != -1 {
		t.Errorf("another error: code %d at %d", code, at)
	}
}
