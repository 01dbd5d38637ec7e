package index

import (
	"sordine/api"
	"sordine/match"
	"sordine/rows"
)

// Find returns the ids on whose labels each of ms holds, ascending; ms may be any matchers.
func (x *Index) Find(ms []api.Matcher) []int {
	found := x.IDs()
	for _, m := range ms {
		found = x.narrow(found, m)
	}
	return found
}

// narrow returns those of ids on whose labels m holds. A matcher asks of one label, so that each value under its name decides for all ids that have it.
func (x *Index) narrow(ids []int, m api.Matcher) []int {
	var yes, no []int
	for _, value := range x.Values(m.Name) {
		label := api.Label{Name: m.Name, Value: value}
		if match.Holds(m, []api.Label{label}) {
			yes = append(yes, x.postings[label]...)
		} else {
			no = append(no, x.postings[label]...)
		}
	}
	// An id without that name stands in no posting of it: it stays where m holds on no label at all.
	if match.Holds(m, nil) {
		return rows.Not(ids, no)
	}
	return rows.And(ids, yes)
}
