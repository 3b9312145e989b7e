package run

import (
	"testing"

	"eden/api"
)

// wrapped is an error round another one.
type wrapped struct{ inner error }

func (w wrapped) Error() string { return "wrapped: " + w.inner.Error() }

func (w wrapped) Unwrap() error { return w.inner }

// TestNames: X1: an error is told by its name (P3), however deep it is wrapped.
func TestNames(t *testing.T) {
	names := []string{api.ErrRange: "ErrRange", api.ErrSyntax: "ErrSyntax", api.ErrShape: "ErrShape", api.ErrFull: "ErrFull", api.ErrNone: "ErrNone", api.ErrLong: "ErrLong", api.ErrState: "ErrState", api.ErrName: "ErrName"}
	for e := api.ErrRange; e <= api.ErrName; e++ {
		for _, err := range []error{e, wrapped{e}, wrapped{wrapped{e}}} {
			if got := nameOf(err); got != names[e] {
				t.Errorf("nameOf(%v): %q, want %q", err, got, names[e])
			}
		}
	}
}
