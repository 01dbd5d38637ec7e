package silence

import (
	"slices"

	"sordine/api"
	"sordine/clock"
	"sordine/match"
	"sordine/real"
)

// Make makes a silence from start until before end, and returns its number.
func (s *Store) Make(now, start, end uint64, ms []api.Matcher, b api.Band) (int, api.Code) {
	if !formed(ms, b) {
		return 0, api.Malformed
	}
	if code := allowed(now, start, end, ms); code != api.OK {
		return 0, code
	}
	// Taken last, because a silence that is refused must not use up a number.
	id, ok := s.numbers.Take()
	if !ok {
		return 0, api.Quota
	}
	// The number is greater than all before it, so that the silence's place is behind the others.
	s.kept = append(s.kept, api.Silence{ID: id})
	s.set(len(s.kept)-1, start, end, ms, b)
	return id, api.OK
}

// Update gives the silence id these times, matchers and band.
func (s *Store) Update(now uint64, id int, start, end uint64, ms []api.Matcher, b api.Band) api.Code {
	if !formed(ms, b) {
		return api.Malformed
	}
	i, ok := s.find(id)
	if !ok {
		return api.NotFound
	}
	state := stateAt(now, s.kept[i])
	if state == api.Expired {
		return api.Conflict
	}
	if code := allowed(now, start, end, ms); code != api.OK {
		return code
	}
	// What has begun keeps its beginning.
	if state == api.Active && start != s.kept[i].Start {
		return api.Conflict
	}
	s.set(i, start, end, ms, b)
	return api.OK
}

// Expire ends the silence id at now.
func (s *Store) Expire(now uint64, id int) api.Code {
	i, ok := s.find(id)
	if !ok {
		return api.NotFound
	}
	x := &s.kept[i]
	if stateAt(now, *x) == api.Expired {
		return api.Conflict
	}
	// A silence that had not begun never does, and yet it must not start behind its end.
	x.Start = min(x.Start, now)
	x.End = now
	s.ends.Put(id, now)
	return api.OK
}

// Sweep removes the silences whose retention is over at now, and returns their numbers in the order of their ends.
func (s *Store) Sweep(now uint64) []int {
	var ids []int
	for {
		id, end, ok := s.ends.First()
		// What ends later is gone later, so that none behind the first one is gone if that is not.
		if !ok || !clock.Gone(now, end, s.retention) {
			return ids
		}
		s.remove(id)
		ids = append(ids, id)
	}
}

// set gives the silence at the place i these times, matchers and band.
func (s *Store) set(i int, start, end uint64, ms []api.Matcher, b api.Band) {
	x := &s.kept[i]
	x.Start, x.End, x.Band = start, end, b
	// The list stays the caller's, who may change it.
	x.Match = slices.Clone(ms)
	s.ends.Put(x.ID, end)
}

// remove takes the silence id out of everything in which it is.
func (s *Store) remove(id int) {
	s.ends.Drop(id)
	s.numbers.Give(id)
	if i, ok := s.find(id); ok {
		s.kept = slices.Delete(s.kept, i, i+1)
	}
}

// formed reports whether a silence may have these matchers, and this band.
func formed(ms []api.Matcher, b api.Band) bool {
	// No matchers would hold on every alert.
	return len(ms) > 0 && match.List(ms) && real.May(b)
}

// allowed returns why a silence that is formed must not have these times and matchers; api.OK if it may.
func allowed(now, start, end uint64, ms []api.Matcher) api.Code {
	switch {
	case match.AnyLarge(ms):
		return api.Large
	case !clock.Span(now, start, end):
		return api.Interval
	}
	return api.OK
}
