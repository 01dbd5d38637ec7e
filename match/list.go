package match

import (
	"cmp"
	"strings"

	"sordine/api"
)

// List reports whether ms is a list of matchers: not too many, each of them valid, in ascending order.
func List(ms []api.Matcher) bool {
	if len(ms) > api.MaxMatchers {
		return false
	}
	for i, m := range ms {
		if !Is(m) {
			return false
		}
		if i > 0 && compare(ms[i-1], m) >= 0 {
			return false
		}
	}
	return true
}

// compare orders matchers by name, then by kind, then by value.
func compare(a, b api.Matcher) int {
	return cmp.Or(
		strings.Compare(a.Name, b.Name),
		cmp.Compare(a.Kind, b.Kind),
		strings.Compare(a.Value, b.Value),
	)
}

// AnyLarge reports whether one of ms is Large; ms may be any matchers.
func AnyLarge(ms []api.Matcher) bool {
	for _, m := range ms {
		if Large(m) {
			return true
		}
	}
	return false
}

// All reports whether each of ms holds on the labels l; ms may be any matchers.
func All(ms []api.Matcher, l []api.Label) bool {
	for _, m := range ms {
		if !Holds(m, l) {
			return false
		}
	}
	return true
}
