package silence

import (
	"math"
	"slices"
	"strings"
	"testing"

	"sordine/api"
)

// far is the greatest time.
const far = math.MaxUint64

// noughts and the like, which no constant is.
func below() float64 { return math.Copysign(0, -1) }
func nan() float64   { return math.NaN() }
func inf() float64   { return math.Inf(1) }

// is returns the matcher that asks whether the label name is value.
func is(name, value string) api.Matcher {
	return api.Matcher{Kind: api.MEqual, Name: name, Value: value}
}

// plain returns a list of one matcher, which holds on ax.
func plain() []api.Matcher { return []api.Matcher{is("a", "x")} }

// ax returns labels on which plain holds.
func ax() []api.Label { return []api.Label{{Name: "a", Value: "x"}} }

// large returns a list of matchers that is one, and is too large.
func large() []api.Matcher {
	return []api.Matcher{{Kind: api.MLike, Name: "a", Value: strings.Repeat("x", 40)}}
}

// all returns the band in which everything is.
func all() api.Band { return api.Band{Any: true} }

// same reports whether a and b are the same silence, with the bounds of their bands told apart by their bits.
func same(a, b api.Silence) bool {
	return a.ID == b.ID && a.State == b.State && a.Start == b.Start && a.End == b.End &&
		slices.Equal(a.Match, b.Match) && a.Band.Any == b.Band.Any &&
		math.Float64bits(a.Band.Lo) == math.Float64bits(b.Band.Lo) &&
		math.Float64bits(a.Band.Hi) == math.Float64bits(b.Band.Hi)
}

// state returns the state at now of what lasts from start until before end.
func state(now, start, end uint64) int {
	if end <= now {
		return api.Expired
	}
	if start <= now {
		return api.Active
	}
	return api.Pending
}

// made makes a silence with plain and all in s, and fails unless it has the number want.
func made(t *testing.T, s *Store, want int, now, start, end uint64) {
	t.Helper()
	if id, code := s.Make(now, start, end, plain(), all()); id != want || code != api.OK {
		t.Fatalf("Make(%d, %d, %d) = %d, %d, want %d", now, start, end, id, code, want)
	}
}

// given checks that the answer to what was asked is want.
func given(t *testing.T, got, want api.Code) {
	t.Helper()
	if got != want {
		t.Errorf("got code %d, want %d", got, want)
	}
}

// told checks that the silence id is in this state, and has these times.
func told(t *testing.T, s *Store, now uint64, id, state int, start, end uint64) {
	t.Helper()
	x, ok := s.Get(now, id)
	if !ok || x.ID != id || x.State != state || x.Start != start || x.End != end {
		t.Errorf("Get(%d, %d) = %v, %v, want state %d from %d to %d", now, id, x, ok, state, start, end)
	}
}

// swept checks what Sweep returns at now, that the same is not returned again, and how many silences stay.
func swept(t *testing.T, s *Store, now uint64, stay int, want ...int) {
	t.Helper()
	if got := s.Sweep(now); !slices.Equal(got, want) {
		t.Errorf("Sweep(%d) = %v, want %v", now, got, want)
	}
	if got := s.Sweep(now); len(got) != 0 || s.Len() != stay {
		t.Errorf("Sweep(%d) again = %v, and %d stay, want %d", now, got, s.Len(), stay)
	}
}

// empty checks that s answers as a store without silences does.
func empty(t *testing.T, s *Store) {
	t.Helper()
	if s.Len() != 0 {
		t.Fatalf("Len() = %d, want 0", s.Len())
	}
	for _, now := range []uint64{0, 1, 9, api.MaxClock, far} {
		for _, id := range []int{math.MinInt, -1, 0, 1, 2, api.MaxID, math.MaxInt} {
			if x, ok := s.Get(now, id); ok || !same(x, api.Silence{}) {
				t.Fatalf("Get(%d, %d) = %v, %v", now, id, x, ok)
			}
			given(t, s.Expire(now, id), api.NotFound)
			given(t, s.Update(now, id, 0, api.MaxClock, plain(), all()), api.NotFound)
		}
		for state := -1; state < 6; state++ {
			if got := s.List(now, state); len(got) != 0 {
				t.Fatalf("List(%d, %d) = %v", now, state, got)
			}
		}
		if got := s.Holds(now, ax(), 0); len(got) != 0 {
			t.Fatalf("Holds(%d) = %v", now, got)
		}
		if got := s.Sweep(now); len(got) != 0 {
			t.Fatalf("Sweep(%d) = %v", now, got)
		}
	}
}

// P14.1, P14.2, P14.3: the run that the chapter names.
func TestRuns(t *testing.T) {
	const retention = 7
	s := New(12, retention)
	if id, code := s.Make(3, 3, 9, plain(), all()); id != 1 || code != api.OK {
		t.Error(id, code)
	}
	given(t, s.Expire(5, 1), api.OK)
	if x, ok := s.Get(5, 1); !ok || x.End != 5 {
		t.Error(x, ok)
	}
	swept(t, s, 5+retention-1, 1)
	swept(t, s, 5+retention, 0, 1)
}

// P14.1: a new store is empty, and what was asked of it is not seen in it.
func TestNewIsEmpty(t *testing.T) {
	for _, most := range []int{0, 1, 12} {
		s := New(most, 5)
		empty(t, s)
		made(t, s, 1, 0, 0, 1)
	}
}

// P14.1: most is limited to the range from 1 to MaxSilences, also where it would be another number in fewer bits.
func TestMost(t *testing.T) {
	for _, q := range []struct{ most, room int }{
		{math.MinInt, 1}, {math.MinInt + 1, 1}, {math.MinInt32, 1}, {-12, 1}, {-1, 1}, {0, 1}, {1, 1}, {2, 2}, {3, 3}, {11, 11},
		{12, 12}, {13, 12}, {14, 12}, {256, 12}, {257, 12}, {1 << 32, 12}, {1<<32 + 1, 12}, {math.MaxInt32, 12}, {math.MaxInt - 1, 12}, {math.MaxInt, 12},
	} {
		s := New(q.most, 1)
		for i := range q.room {
			made(t, s, i+1, 0, 0, 9)
			if s.Len() != i+1 {
				t.Fatal(q.most, i, s.Len())
			}
		}
		for range 3 {
			if id, code := s.Make(0, 0, 9, plain(), all()); id != 0 || code != api.Quota || s.Len() != q.room {
				t.Fatalf("New(%d): Make = %d, %d with %d", q.most, id, code, s.Len())
			}
		}
	}
}

// P14.1: retention is limited to the range from 1 to MaxRetention.
func TestRetention(t *testing.T) {
	for _, q := range []struct{ retention, kept uint64 }{
		{0, 1}, {1, 1}, {2, 2}, {3, 3}, {1000, 1000}, {api.MaxRetention - 1, api.MaxRetention - 1}, {api.MaxRetention, api.MaxRetention},
		{api.MaxRetention + 1, api.MaxRetention}, {1 << 32, api.MaxRetention}, {1<<32 + 1, api.MaxRetention}, {api.MaxClock, api.MaxRetention},
		{1 << 63, api.MaxRetention}, {far - 1, api.MaxRetention}, {far, api.MaxRetention},
	} {
		for _, end := range []uint64{1, 2, 77, api.MaxClock - 1, api.MaxClock} {
			s := New(2, q.retention)
			made(t, s, 1, 0, 0, end)
			swept(t, s, 0, 1)
			swept(t, s, end-1, 1)
			swept(t, s, end+q.kept-1, 1)
			swept(t, s, end+q.kept, 0, 1)
			made(t, s, 2, end-1, 0, end)
			swept(t, s, end+q.kept+1, 0, 2)
			made(t, s, 3, end-1, 0, end)
			swept(t, s, far, 0, 3)
		}
	}
}

// P14.3: Get tells all of a silence at every moment, with the state that it has then.
func TestGet(t *testing.T) {
	s := New(4, 1)
	two := []api.Matcher{{Kind: api.MUnlike, Name: "a", Value: "x*"}, is("b", "")}
	band := api.Band{Lo: below(), Hi: inf()}
	if id, code := s.Make(0, 3, 6, two, band); id != 1 || code != api.OK {
		t.Fatal(id, code)
	}
	made(t, s, 2, 0, 0, api.MaxClock)
	for now, want := range []int{api.Pending, api.Pending, api.Pending, api.Active, api.Active, api.Active, api.Expired, api.Expired, api.Expired} {
		x, ok := s.Get(uint64(now), 1)
		if !ok || !same(x, api.Silence{ID: 1, State: want, Start: 3, End: 6, Match: two, Band: band}) {
			t.Error(now, x, ok)
		}
	}
	for _, q := range []struct {
		now  uint64
		want int
	}{{0, api.Active}, {1, api.Active}, {api.MaxClock - 1, api.Active}, {api.MaxClock, api.Expired}, {api.MaxClock + 1, api.Expired}, {far, api.Expired}} {
		x, ok := s.Get(q.now, 2)
		if !ok || !same(x, api.Silence{ID: 2, State: q.want, End: api.MaxClock, Match: plain(), Band: all()}) {
			t.Error(q.now, x, ok)
		}
	}
}

// P14.3, R3: of what is not kept Get tells nothing: numbers that were never given, that will be, and that were swept.
func TestGetWhatIsNotThere(t *testing.T) {
	s := New(3, 1)
	made(t, s, 1, 0, 0, 2)
	made(t, s, 2, 0, 0, 9)
	made(t, s, 3, 0, 0, 2)
	swept(t, s, 3, 1, 1, 3)
	for _, id := range []int{math.MinInt, math.MinInt + 2, -2, -1, 0, 1, 3, 4, 1<<32 + 2, api.MaxID, math.MaxInt} {
		for _, now := range []uint64{0, 1, 3, far} {
			if x, ok := s.Get(now, id); ok || !same(x, api.Silence{}) {
				t.Errorf("Get(%d, %d) = %v, %v", now, id, x, ok)
			}
		}
	}
	told(t, s, 3, 2, api.Active, 0, 9)
}

// P14.3: List at each state, at all of them, and at numbers that are no state, at every moment.
func TestList(t *testing.T) {
	s := New(12, 100)
	spans := [][2]uint64{{0, 9}, {4, 6}, {2, 3}, {5, 6}, {0, 1}, {2, 9}, {5, 9}, {8, 9}}
	for i, q := range spans {
		made(t, s, i+1, 0, q[0], q[1])
	}
	for now := range uint64(11) {
		for _, which := range []int{math.MinInt, math.MinInt32, -3, -2, -1, 0, 1, 2, 3, 4, 5, 1 << 32, 1<<32 + 2, math.MaxInt} {
			var want []api.Silence
			for i, q := range spans {
				if have := state(now, q[0], q[1]); which == 0 || which == have {
					want = append(want, api.Silence{ID: i + 1, State: have, Start: q[0], End: q[1], Match: plain(), Band: all()})
				}
			}
			if got := s.List(now, which); !slices.EqualFunc(got, want, same) {
				t.Errorf("List(%d, %d) = %v, want %v", now, which, got, want)
			}
		}
	}
}

// P14.3: List at 5, state by state, without a function between.
func TestKnownList(t *testing.T) {
	s := New(12, 100)
	made(t, s, 1, 0, 6, 9)
	made(t, s, 2, 0, 5, 6)
	made(t, s, 3, 0, 1, 5)
	made(t, s, 4, 0, 0, 9)
	made(t, s, 5, 0, 4, 5)
	made(t, s, 6, 0, 9, 10)
	for which, want := range [][]int{{1, 2, 3, 4, 5, 6}, {1, 6}, {2, 4}, {3, 5}, nil} {
		var ids []int
		for _, x := range s.List(5, which) {
			ids = append(ids, x.ID)
		}
		if !slices.Equal(ids, want) {
			t.Errorf("List(5, %d) has %v, want %v", which, ids, want)
		}
	}
}

// P14.3: Holds returns what is active, from its start until before its end.
func TestHoldsWhileActive(t *testing.T) {
	s := New(12, 100)
	for i, q := range [][2]uint64{{3, 6}, {0, 4}, {4, 5}, {0, api.MaxClock}} {
		made(t, s, i+1, 0, q[0], q[1])
	}
	for _, q := range []struct {
		now  uint64
		want []int
	}{{0, []int{2, 4}}, {2, []int{2, 4}}, {3, []int{1, 2, 4}}, {4, []int{1, 3, 4}}, {5, []int{1, 4}}, {6, []int{4}}, {api.MaxClock - 1, []int{4}}, {api.MaxClock, nil}, {far, nil}} {
		if got := s.Holds(q.now, ax(), 1); !slices.Equal(got, q.want) {
			t.Errorf("Holds(%d) = %v, want %v", q.now, got, q.want)
		}
	}
}

// P14.3: Holds asks every matcher of a list: labels on which none, some and all of them hold.
func TestHoldsOnLabels(t *testing.T) {
	s := New(12, 1)
	like := api.Matcher{Kind: api.MLike, Name: "c", Value: "(p|q)+"}
	unlike := api.Matcher{Kind: api.MUnlike, Name: "c", Value: "(p|q)+"}
	unequal := api.Matcher{Kind: api.MUnequal, Name: "b", Value: "y"}
	for i, ms := range [][]api.Matcher{
		{is("a", "x")},
		{is("a", "x"), is("b", "y")},
		{is("a", "x"), is("b", "y"), like},
		{unequal},
		{unlike},
		{is("a", "x"), unequal, unlike},
		{is("b", "")},
	} {
		if id, code := s.Make(0, 0, 9, ms, all()); id != i+1 || code != api.OK {
			t.Fatal(i, id, code)
		}
	}
	for _, q := range []struct {
		a, b, c string
		want    []int
	}{
		{"x", "y", "pq", []int{1, 2, 3}},
		{"x", "y", "pr", []int{1, 2, 5}},
		{"x", "y", "", []int{1, 2, 5}},
		{"x", "z", "p", []int{1, 4}},
		{"x", "z", "r", []int{1, 4, 5, 6}},
		{"x", "", "r", []int{1, 4, 5, 6, 7}},
		{"x", "", "qq", []int{1, 4, 7}},
		{"z", "y", "p", nil},
		{"z", "y", "r", []int{5}},
		{"", "y", "q", nil},
		{"", "", "", []int{4, 5, 7}},
	} {
		var l []api.Label
		for _, x := range []api.Label{{Name: "a", Value: q.a}, {Name: "b", Value: q.b}, {Name: "c", Value: q.c}} {
			if x.Value != "" {
				l = append(l, x)
			}
		}
		if got := s.Holds(3, l, 0); !slices.Equal(got, q.want) {
			t.Errorf("Holds(%v) = %v, want %v", l, got, q.want)
		}
	}
}

// P14.3, R4: no labels are no labels, be the list nil or empty.
func TestHoldsOnNoLabels(t *testing.T) {
	s := New(3, 1)
	made(t, s, 1, 0, 0, 9)
	if id, code := s.Make(0, 0, 9, []api.Matcher{is("a", "")}, all()); id != 2 || code != api.OK {
		t.Fatal(id, code)
	}
	for _, l := range [][]api.Label{nil, {}, ax()[:0]} {
		if got := s.Holds(1, l, 0); !slices.Equal(got, []int{2}) {
			t.Error(l, got)
		}
	}
}

// P14.3: Holds returns the silences whose band has the value in it: both bounds are in it, the noughts are equal, and a NaN is in none but Any.
func TestHoldsInBand(t *testing.T) {
	s := New(12, 1)
	for i, b := range []api.Band{
		all(),
		{Lo: 0, Hi: 1},
		{Lo: below(), Hi: below()},
		{Lo: 0, Hi: below()},
		{Lo: 90, Hi: inf()},
		{Lo: -inf(), Hi: inf()},
		{Lo: inf(), Hi: inf()},
		{Lo: -inf(), Hi: -1},
		{Lo: math.SmallestNonzeroFloat64, Hi: math.MaxFloat64},
	} {
		if id, code := s.Make(0, 0, 9, plain(), b); id != i+1 || code != api.OK {
			t.Fatal(b, id, code)
		}
	}
	for _, q := range []struct {
		v    float64
		want []int
	}{
		{0, []int{1, 2, 3, 4, 6}},
		{below(), []int{1, 2, 3, 4, 6}},
		{math.SmallestNonzeroFloat64, []int{1, 2, 6, 9}},
		{-math.SmallestNonzeroFloat64, []int{1, 6}},
		{0.5, []int{1, 2, 6, 9}},
		{1, []int{1, 2, 6, 9}},
		{math.Nextafter(1, 2), []int{1, 6, 9}},
		{-1, []int{1, 6, 8}},
		{math.Nextafter(-1, 0), []int{1, 6}},
		{math.Nextafter(90, 0), []int{1, 6, 9}},
		{90, []int{1, 5, 6, 9}},
		{math.MaxFloat64, []int{1, 5, 6, 9}},
		{-math.MaxFloat64, []int{1, 6, 8}},
		{inf(), []int{1, 5, 6, 7}},
		{-inf(), []int{1, 6, 8}},
		{nan(), []int{1}},
		{math.Float64frombits(0xfff8000000000123), []int{1}},
	} {
		if got := s.Holds(3, ax(), q.v); !slices.Equal(got, q.want) {
			t.Errorf("Holds(%v) = %v, want %v", q.v, got, q.want)
		}
		// Time, labels and value are asked all three.
		if len(s.Holds(9, ax(), q.v)) != 0 || len(s.Holds(3, nil, q.v)) != 0 {
			t.Error(q.v)
		}
	}
}

// P14.3: Len counts what is kept, in every state, and changes with Make and Sweep alone.
func TestLen(t *testing.T) {
	s := New(4, 2)
	for i, q := range []struct {
		do   func()
		want int
	}{
		{func() {}, 0},
		{func() { s.Make(0, 0, 0, plain(), all()) }, 0},
		{func() { s.Make(0, 0, 5, plain(), all()) }, 1},
		{func() { s.Make(0, 3, 5, plain(), all()) }, 2},
		{func() { s.Make(0, 3, 4, plain(), all()) }, 3},
		{func() { s.Update(0, 2, 1, 6, plain(), all()) }, 3},
		{func() { s.Update(0, 9, 1, 6, plain(), all()) }, 3},
		{func() { s.Expire(1, 1) }, 3},
		{func() { s.Expire(1, 1) }, 3},
		{func() { s.Sweep(2) }, 3},
		{func() { s.Sweep(3) }, 2},
		{func() { s.Sweep(3) }, 2},
		{func() { s.Make(3, 3, 4, plain(), all()) }, 3},
		{func() { s.Make(3, 3, 4, plain(), all()) }, 4},
		{func() { s.Make(3, 3, 4, plain(), all()) }, 4},
		{func() { s.List(4, 0); s.Get(4, 2); s.Holds(4, ax(), 0) }, 4},
		{func() { s.Sweep(6) }, 1},
		{func() { s.Sweep(far) }, 0},
	} {
		q.do()
		if s.Len() != q.want {
			t.Fatal(i, s.Len())
		}
	}
	empty(t, s)
}

// spoil changes everything in l that a caller can reach, the spare capacity included.
func spoil(l []api.Matcher) {
	l = l[:cap(l)]
	for i := range l {
		l[i] = api.Matcher{Kind: api.MUnlike, Name: "q", Value: "q+"}
	}
}

// R2: a caller who changes the matchers that it gave changes nothing in the store.
func TestGivenMatchersAreTheCallers(t *testing.T) {
	for room := range 4 {
		s := New(3, 1)
		own := make([]api.Matcher, 1, 1+room)
		own[0] = is("a", "x")
		if id, code := s.Make(0, 5, 9, own, all()); id != 1 || code != api.OK {
			t.Fatal(id, code)
		}
		spoil(own)
		again := make([]api.Matcher, 1, 1+room)
		again[0] = is("a", "x")
		made(t, s, 2, 0, 5, 9)
		given(t, s.Update(0, 2, 5, 9, again, all()), api.OK)
		spoil(again)
		for id := 1; id < 3; id++ {
			if x, _ := s.Get(5, id); !slices.Equal(x.Match, plain()) {
				t.Error(room, x)
			}
		}
		if got := s.Holds(5, ax(), 0); !slices.Equal(got, []int{1, 2}) {
			t.Error(room, got)
		}
	}
}

// R2: what the store was given is not changed by it, be it accepted or refused; neither is the room behind it.
func TestArgumentsStay(t *testing.T) {
	s := New(1, 1)
	ms := append(plain(), is("b", "y"), is("a", "left"), is("", "behind"))
	l := append(ax(), api.Label{Name: "c", Value: "z"}, api.Label{Name: "b", Value: "left"})
	wantMs, wantL := slices.Clone(ms), slices.Clone(l)
	for n := range len(ms) + 1 {
		s.Make(0, 1, 9, ms[:n], all())
		s.Update(0, 1, 1, 9, ms[:n], all())
		for k := range len(l) + 1 {
			s.Holds(1, l[:k], 0)
		}
		s.Sweep(far)
	}
	if !slices.Equal(ms, wantMs) || !slices.Equal(l, wantL) {
		t.Error(ms, l)
	}
}

// R2: what was handed out is the caller's, its spare capacity included, and what the caller makes of it changes nothing in the store.
func TestHandedOutIsNew(t *testing.T) {
	s := New(9, 1)
	five := func() []api.Matcher {
		return []api.Matcher{is("a", "x"), is("b", ""), is("c", ""), is("d", ""), is("e", "")}
	}
	for n := 1; n < 6; n++ {
		if id, code := s.Make(0, 0, 9, five()[:n], all()); id != n || code != api.OK {
			t.Fatal(n, id, code)
		}
	}
	check := func() {
		t.Helper()
		for i, x := range s.List(1, 0) {
			y, ok := s.Get(1, i+1)
			if !ok || !same(x, y) || !same(x, api.Silence{ID: i + 1, State: api.Active, End: 9, Match: five()[:i+1], Band: all()}) {
				t.Fatal(x, y)
			}
		}
		if got := s.Holds(1, ax(), 0); !slices.Equal(got, []int{1, 2, 3, 4, 5}) || s.Len() != 5 {
			t.Fatal(got, s.Len())
		}
	}
	check()
	for n := 1; n < 6; n++ {
		x, _ := s.Get(1, n)
		spoil(x.Match)
		check()
	}
	for _, which := range []int{0, api.Active} {
		l := s.List(1, which)
		for _, x := range l {
			spoil(x.Match)
			check()
		}
		l = l[:cap(l)]
		for i := range l {
			l[i] = api.Silence{ID: 9, Start: 9}
		}
		check()
	}
	ids := s.Holds(1, ax(), 0)
	ids = ids[:cap(ids)]
	for i := range ids {
		ids[i] = -9
	}
	check()
}

// R2: a later change is not seen in what was handed out earlier, and no two lists share memory.
func TestHandedOutIsAlone(t *testing.T) {
	s := New(4, 1)
	for i := range 4 {
		made(t, s, i+1, 0, 5, uint64(6+i/2))
	}
	list, again := s.List(0, 0), s.List(0, 0)
	x, _ := s.Get(0, 1)
	other := []api.Matcher{is("b", "y"), is("c", "z")}
	for id := 1; id < 5; id++ {
		given(t, s.Update(0, id, 4, 5+uint64(id), other, api.Band{Lo: 1, Hi: 2}), api.OK)
	}
	held := s.Holds(5, []api.Label{{Name: "b", Value: "y"}, {Name: "c", Value: "z"}}, 1)
	first, second := s.Sweep(8), s.Sweep(far)
	for _, l := range [][]int{held, first, second} {
		_ = append(l, -1, -2, -3)
	}
	if !slices.Equal(held, []int{1, 2, 3, 4}) || !slices.Equal(first, []int{1, 2}) || !slices.Equal(second, []int{3, 4}) {
		t.Error(held, first, second)
	}
	for i := range list {
		// Were the matchers of two silences in one array, one's would be the other's spare capacity.
		_ = append(list[i].Match, is("q", "q"))
		spoil(again[i].Match)
	}
	for i, y := range append(slices.Clone(list), x) {
		if y.ID != i%4+1 || y.Start != 5 || y.State != api.Pending || !slices.Equal(y.Match, plain()) {
			t.Error(i, y)
		}
	}
}

// R4: two stores know nothing of one another.
func TestStoresAreAlone(t *testing.T) {
	a, b := New(2, 1), New(2, 1)
	made(t, a, 1, 0, 0, 5)
	empty(t, b)
	made(t, a, 2, 0, 0, 5)
	made(t, b, 1, 0, 0, 9)
	given(t, a.Expire(1, 1), api.OK)
	told(t, a, 1, 1, api.Expired, 0, 1)
	told(t, b, 1, 1, api.Active, 0, 9)
	given(t, b.Update(1, 1, 0, 3, large(), all()), api.Large)
	given(t, b.Update(1, 1, 0, 3, plain(), all()), api.OK)
	told(t, a, 1, 1, api.Expired, 0, 1)
	swept(t, a, 2, 1, 1)
	swept(t, b, 2, 1)
	made(t, b, 2, 1, 1, 9)
	made(t, a, 3, 1, 1, 9)
	swept(t, b, 4, 1, 1)
	if a.Len() != 2 || b.Len() != 1 {
		t.Error(a.Len(), b.Len())
	}
}
