package silence

import (
	"math"
	"slices"
	"strings"
	"testing"

	"sordine/api"
)

// malformed returns lists of matchers that no silence may have: none, and such as are no list.
func malformed() [][]api.Matcher {
	a, b := is("a", "x"), is("b", "y")
	return [][]api.Matcher{
		nil,
		{},
		{{}},
		{b, a},
		{a, a},
		{is("a", "y"), is("a", "x")},
		{{Kind: api.MLike, Name: "a", Value: "x"}, a},
		{a, b, is("c", ""), is("d", ""), is("e", ""), is("f", "")},
		{{Kind: 0, Name: "a", Value: "x"}},
		{{Kind: 5, Name: "a", Value: "x"}},
		{{Kind: -1, Name: "a", Value: "x"}},
		{is("", "x")},
		{is("A-", "x")},
		{is(strings.Repeat("a", api.MaxName+1), "x")},
		{is("a", strings.Repeat("x", api.MaxValue+1))},
		{{Kind: api.MLike, Name: "a", Value: "("}},
		{{Kind: api.MUnlike, Name: "a", Value: "*"}},
		{{Kind: api.MLike, Name: "a", Value: strings.Repeat("x", api.MaxPattern+1)}},
		{a, {}},
		{large()[0], a},
		{a, large()[0], {}},
	}
}

// allowedLists returns lists of matchers that a silence may have.
func allowedLists() [][]api.Matcher {
	a := is("a", "x")
	return [][]api.Matcher{
		{a},
		{is("a", "")},
		{is("a", strings.Repeat("\x00", api.MaxValue))},
		{{Kind: api.MUnequal, Name: strings.Repeat("a", api.MaxName), Value: "\xff"}},
		{{Kind: api.MLike, Name: "a", Value: strings.Repeat("x", 39)}},
		{{Kind: api.MLike, Name: "a", Value: ""}},
		{{Kind: api.MUnlike, Name: "a", Value: "(a|b)+"}},
		{a, is("a", "y")},
		{a, {Kind: api.MUnequal, Name: "a", Value: "x"}, {Kind: api.MLike, Name: "a", Value: "x"}, {Kind: api.MUnlike, Name: "a", Value: "x"}, is("b", "")},
	}
}

// refusedBands returns bands that no silence may have.
func refusedBands() []api.Band {
	return []api.Band{
		{Lo: 1},
		{Hi: -1},
		{Lo: math.Nextafter(1, 2), Hi: 1},
		{Lo: math.SmallestNonzeroFloat64},
		{Lo: inf(), Hi: -inf()},
		{Lo: inf(), Hi: math.MaxFloat64},
		{Lo: nan(), Hi: 1},
		{Lo: 1, Hi: nan()},
		{Lo: nan(), Hi: nan()},
		{Lo: -inf(), Hi: nan()},
		{Lo: nan(), Hi: inf()},
		{Any: true, Lo: below()},
		{Any: true, Hi: below()},
		{Any: true, Lo: below(), Hi: below()},
		{Any: true, Lo: 1, Hi: 2},
		{Any: true, Hi: 1},
		{Any: true, Lo: -1},
		{Any: true, Lo: -inf(), Hi: inf()},
		{Any: true, Lo: nan()},
		{Any: true, Hi: nan()},
	}
}

// bands returns bands that a silence may have.
func bands() []api.Band {
	return []api.Band{
		all(),
		{},
		{Lo: below()},
		{Hi: below()},
		{Lo: below(), Hi: below()},
		{Lo: 1, Hi: 1},
		{Lo: 1, Hi: math.Nextafter(1, 2)},
		{Lo: -math.MaxFloat64, Hi: math.SmallestNonzeroFloat64},
		{Lo: -inf(), Hi: inf()},
		{Lo: -inf(), Hi: -inf()},
		{Lo: inf(), Hi: inf()},
		{Lo: 90, Hi: inf()},
	}
}

// A seen is all that a store tells of itself at some moments.
type seen struct {
	lists [][]api.Silence
	holds [][]int
	len   int
}

// look returns what s tells; asking changes nothing.
func look(s *Store) seen {
	x := seen{len: s.Len()}
	for _, now := range []uint64{0, 1, 4, 5, 6, 9, 10, api.MaxClock - 1, api.MaxClock, far} {
		x.lists = append(x.lists, s.List(now, 0))
		x.holds = append(x.holds, s.Holds(now, ax(), 0))
	}
	return x
}

// unchanged checks that s still tells what it told before.
func unchanged(t *testing.T, s *Store, before seen) {
	t.Helper()
	after := look(s)
	alike := after.len == before.len && slices.EqualFunc(after.holds, before.holds, slices.Equal)
	for i := range before.lists {
		alike = alike && slices.EqualFunc(after.lists[i], before.lists[i], same)
	}
	if !alike {
		t.Fatalf("a refused change is seen: %v, before %v", after, before)
	}
}

// P14.2: Make numbers the silences 1, 2 and so on, and keeps what it was given.
func TestMakeKeepsWhatItIsGiven(t *testing.T) {
	for i, ms := range allowedLists() {
		for _, b := range bands() {
			s := New(3, 1)
			made(t, s, 1, 0, 0, 9)
			if id, code := s.Make(4, uint64(i), 9, ms, b); id != 2 || code != api.OK {
				t.Fatalf("Make(%v, %v) = %d, %d", ms, b, id, code)
			}
			made(t, s, 3, 0, 0, 9)
			if x, ok := s.Get(9, 2); !ok || !same(x, api.Silence{ID: 2, State: api.Expired, Start: uint64(i), End: 9, Match: ms, Band: b}) {
				t.Fatal(x, ok)
			}
		}
	}
}

// P14.2: Update gives a silence what it was given, and leaves the others.
func TestUpdateGivesWhatItIsGiven(t *testing.T) {
	for i, ms := range allowedLists() {
		for k, b := range bands() {
			s := New(3, 1)
			for id := range 3 {
				made(t, s, id+1, 0, 20, 30)
			}
			id, start, end := k%3+1, uint64(i), uint64(10+k)
			given(t, s.Update(9, id, start, end, ms, b), api.OK)
			for other := 1; other < 4; other++ {
				want := api.Silence{ID: other, State: api.Pending, Start: 20, End: 30, Match: plain(), Band: all()}
				if other == id {
					want = api.Silence{ID: id, State: state(9, start, end), Start: start, End: end, Match: ms, Band: b}
				}
				if x, ok := s.Get(9, other); !ok || !same(x, want) {
					t.Fatal(x, ok, want)
				}
			}
		}
	}
}

// P14.2: Make and Update refuse as Malformed what is no list of matchers, the list of none, and bands that are none.
func TestMalformed(t *testing.T) {
	s := New(3, 5)
	made(t, s, 1, 0, 3, 9)
	before := look(s)
	refused := func(ms []api.Matcher, b api.Band) {
		t.Helper()
		if id, code := s.Make(0, 3, 9, ms, b); id != 0 || code != api.Malformed {
			t.Errorf("Make(%v, %v) = %d, %d", ms, b, id, code)
		}
		if code := s.Update(0, 1, 3, 9, ms, b); code != api.Malformed {
			t.Errorf("Update(%v, %v) = %d", ms, b, code)
		}
		unchanged(t, s, before)
	}
	for _, ms := range malformed() {
		refused(ms, all())
		refused(ms, api.Band{Lo: 1})
	}
	for _, b := range refusedBands() {
		refused(plain(), b)
		refused(large(), b)
	}
	made(t, s, 2, 0, 3, 9)
}

// P14.2: Make and Update refuse a list with a matcher that is too large, wherever it stands in the list.
func TestLarge(t *testing.T) {
	s := New(3, 5)
	made(t, s, 1, 0, 3, 9)
	before := look(s)
	big := large()[0].Value
	for _, ms := range [][]api.Matcher{
		large(),
		{{Kind: api.MUnlike, Name: "a", Value: big}},
		{is("a", "x"), {Kind: api.MLike, Name: "b", Value: big}},
		{{Kind: api.MUnlike, Name: "a", Value: big}, is("b", "y"), is("c", "z")},
		{is("a", "x"), {Kind: api.MLike, Name: "a", Value: big}, is("b", "y")},
		{is("a", ""), is("b", ""), is("c", ""), is("d", ""), {Kind: api.MUnlike, Name: "e", Value: big}},
	} {
		if id, code := s.Make(0, 3, 9, ms, all()); id != 0 || code != api.Large {
			t.Errorf("Make(%v) = %d, %d", ms, id, code)
		}
		given(t, s.Update(0, 1, 3, 9, ms, all()), api.Large)
		unchanged(t, s, before)
	}
	made(t, s, 2, 0, 3, 9)
}

// moments returns times of all kinds, ascending.
func moments() []uint64 {
	return []uint64{0, 1, 2, 3, 4, 5, 6, 100, math.MaxUint32, 1 << 32, 1<<32 + 5, api.MaxClock - 2, api.MaxClock - 1, api.MaxClock, api.MaxClock + 1, api.MaxClock + 5, math.MaxInt64, 1 << 63, 1<<63 + 1, far - 1, far}
}

// P14.2: Make and Update refuse times out of order, over already, or behind the clock's end, and no other ones.
func TestTimes(t *testing.T) {
	for _, now := range moments() {
		for _, start := range moments() {
			for _, end := range moments() {
				want := api.Interval
				if start < end && now < end && end <= api.MaxClock {
					want = api.OK
				}
				s := New(2, 1)
				id, code := s.Make(now, start, end, plain(), all())
				if code != want || s.Len() != id || (id == 1) != (want == api.OK) {
					t.Fatalf("Make(%d, %d, %d) = %d, %d", now, start, end, id, code)
				}
				if want == api.OK {
					told(t, s, now, 1, state(now, start, end), start, end)
				}
				// While it is pending, a silence can be given any times.
				if now >= api.MaxClock-1 {
					continue
				}
				s = New(2, 1)
				made(t, s, 1, now, api.MaxClock-1, api.MaxClock)
				given(t, s.Update(now, 1, start, end, plain(), all()), want)
				if want == api.OK {
					told(t, s, now, 1, state(now, start, end), start, end)
				} else {
					told(t, s, now, 1, api.Pending, api.MaxClock-1, api.MaxClock)
				}
			}
		}
	}
}

// P14.2: times one by one: start and end at, just below and just above now and each other.
func TestKnownTimes(t *testing.T) {
	for _, q := range []struct {
		now, start, end uint64
		want            api.Code
		state           int
	}{
		{5, 5, 6, api.OK, api.Active}, {5, 4, 6, api.OK, api.Active}, {5, 6, 7, api.OK, api.Pending}, {5, 0, 6, api.OK, api.Active},
		{5, 6, 6, api.Interval, 0}, {5, 7, 6, api.Interval, 0}, {5, 4, 5, api.Interval, 0}, {5, 3, 4, api.Interval, 0}, {5, 5, 5, api.Interval, 0},
		{0, 0, 0, api.Interval, 0}, {0, 0, 1, api.OK, api.Active}, {0, 1, 2, api.OK, api.Pending}, {0, 1, 0, api.Interval, 0},
		{0, 0, api.MaxClock, api.OK, api.Active}, {0, 0, api.MaxClock + 1, api.Interval, 0}, {0, api.MaxClock - 1, api.MaxClock, api.OK, api.Pending},
		{0, api.MaxClock, api.MaxClock + 1, api.Interval, 0}, {0, api.MaxClock, api.MaxClock, api.Interval, 0},
		{api.MaxClock - 1, 0, api.MaxClock, api.OK, api.Active}, {api.MaxClock, 0, api.MaxClock, api.Interval, 0},
		{far, 0, api.MaxClock, api.Interval, 0}, {0, far, 1, api.Interval, 0}, {0, 0, far, api.Interval, 0}, {far, far - 1, far, api.Interval, 0},
	} {
		s := New(1, 1)
		id, code := s.Make(q.now, q.start, q.end, plain(), all())
		if code != q.want || (id == 1) != (code == api.OK) {
			t.Error(q, id, code)
		}
		if x, _ := s.Get(q.now, 1); x.State != q.state {
			t.Error(q, x)
		}
	}
}

// P14.2: Quota while a store is just full, with silences of any state, and no more when some are swept; the number goes on.
func TestQuota(t *testing.T) {
	for most := 1; most <= api.MaxSilences; most++ {
		s := New(most, 3)
		for i := range most {
			made(t, s, i+1, 0, uint64(i%2), 2)
		}
		for _, now := range []uint64{0, 1, 2, 4, 5} {
			before := look(s)
			if id, code := s.Make(now, now, 9, plain(), all()); id != 0 || code != api.Quota {
				t.Fatal(most, now, id, code)
			}
			unchanged(t, s, before)
		}
		swept(t, s, 4, most)
		// What is gone takes up room until it is swept.
		if id, code := s.Make(5, 5, 9, plain(), all()); id != 0 || code != api.Quota {
			t.Fatal(most, id, code)
		}
		if got := s.Sweep(5); len(got) != most {
			t.Fatal(most, got)
		}
		for i := range most {
			made(t, s, most+i+1, 5, 5, 9)
		}
		if id, code := s.Make(5, 5, 9, plain(), all()); id != 0 || code != api.Quota {
			t.Fatal(most, id, code)
		}
		told(t, s, 5, 2*most, api.Active, 5, 9)
	}
}

// P14.2: one place that becomes free is for one silence.
func TestOneIsFree(t *testing.T) {
	s := New(2, 1)
	made(t, s, 1, 0, 0, 9)
	made(t, s, 2, 0, 0, 3)
	swept(t, s, 4, 1, 2)
	made(t, s, 3, 4, 4, 6)
	if id, code := s.Make(4, 4, 9, plain(), all()); id != 0 || code != api.Quota {
		t.Error(id, code)
	}
	given(t, s.Expire(4, 3), api.OK)
	if id, code := s.Make(4, 4, 9, plain(), all()); id != 0 || code != api.Quota {
		t.Error("what is expired is kept", id, code)
	}
	swept(t, s, 5, 1, 3)
	made(t, s, 4, 5, 5, 6)
	told(t, s, 5, 1, api.Active, 0, 9)
}

// P14.2, T6: no number is given twice, not that of the last silence either, and a refused Make uses up none.
func TestNumbers(t *testing.T) {
	s := New(2, 1)
	for want := 1; want < 200; want++ {
		now := uint64(want * 2)
		for _, ms := range malformed() {
			s.Make(now, now, now+1, ms, all())
		}
		s.Make(now, now, now+1, plain(), api.Band{Lo: nan()})
		s.Make(now, now, now+1, large(), all())
		s.Make(now, now, now, plain(), all())
		s.Make(now, now, api.MaxClock+1, plain(), all())
		made(t, s, want, now, now, now+1)
		if want%3 == 0 {
			given(t, s.Update(now, want, now, now+1, plain(), all()), api.OK)
		}
		swept(t, s, now+2, 0, want)
		given(t, s.Expire(now, want), api.NotFound)
	}
	for _, want := range []int{200, 201} {
		made(t, s, want, 0, 0, 9)
	}
	for range 9 {
		s.Make(0, 0, 9, plain(), all())
	}
	swept(t, s, 10, 0, 200, 201)
	made(t, s, 202, 0, 0, 9)
}

// P14.2: the errors of Make, in every combination: the first one is answered, and nothing is changed.
func TestOrderOfMake(t *testing.T) {
	for faults := range 1 << 4 {
		has := func(i int) bool { return faults>>i&1 == 1 }
		ms, b, end, most := plain(), all(), uint64(9), 2
		want := api.OK
		if has(3) {
			most, want = 1, api.Quota
		}
		if has(2) {
			end, want = 5, api.Interval
		}
		if has(1) {
			ms, want = large(), api.Large
		}
		if has(0) {
			b, want = api.Band{Lo: 1}, api.Malformed
		}
		s := New(most, 1)
		made(t, s, 1, 0, 0, 9)
		before := look(s)
		id, code := s.Make(0, 5, end, ms, b)
		if code != want || (id == 2) != (code == api.OK) || id != 0 && code != api.OK {
			t.Errorf("with faults %04b: %d, %d, want %d", faults, id, code, want)
		}
		if want != api.OK {
			unchanged(t, s, before)
		}
		// A list that is none is Malformed, whatever else is wrong.
		if has(0) {
			for _, bad := range malformed() {
				if id, code := s.Make(0, 5, end, bad, all()); id != 0 || code != api.Malformed {
					t.Errorf("with faults %04b: %d, %d", faults, id, code)
				}
			}
			unchanged(t, s, before)
		}
	}
}

// P14.2: the errors of Update, in every combination: the first one is answered, and nothing is changed.
func TestOrderOfUpdate(t *testing.T) {
	for faults := range 1 << 6 {
		has := func(i int) bool { return faults>>i&1 == 1 }
		ms, b, id, now, start, end := plain(), all(), 1, uint64(4), uint64(3), uint64(9)
		want := api.OK
		if has(5) {
			start, want = 2, api.Conflict
		}
		if has(4) {
			end, want = start, api.Interval
		}
		if has(3) {
			ms, want = large(), api.Large
		}
		if has(2) {
			now, want = 6, api.Conflict
		}
		if has(1) {
			id, want = 2, api.NotFound
		}
		if has(0) {
			b, want = api.Band{Any: true, Lo: 1}, api.Malformed
		}
		s := New(3, 5)
		made(t, s, 1, 0, 3, 6)
		before := look(s)
		if code := s.Update(now, id, start, end, ms, b); code != want {
			t.Errorf("with faults %06b: %d, want %d", faults, code, want)
		}
		if want != api.OK {
			unchanged(t, s, before)
		} else {
			told(t, s, now, 1, api.Active, 3, 9)
		}
		if has(0) {
			for _, bad := range malformed() {
				given(t, s.Update(now, id, start, end, bad, all()), api.Malformed)
			}
			unchanged(t, s, before)
		}
	}
}

// P14.2: Update of a silence that pends, is active or is expired, with its own start and with other ones.
func TestUpdateByState(t *testing.T) {
	for _, q := range []struct {
		now, start, end uint64
		want            api.Code
	}{
		// It pends from 4 on until 8 at first.
		{0, 4, 8, api.OK}, {0, 0, 8, api.OK}, {3, 3, 8, api.OK}, {3, 1, 4, api.OK}, {3, 9, 12, api.OK}, {3, 2, 3, api.Interval}, {3, 8, 8, api.Interval},
		{4, 4, 8, api.OK}, {4, 4, 5, api.OK}, {4, 4, api.MaxClock, api.OK}, {4, 3, 8, api.Conflict}, {4, 5, 8, api.Conflict}, {4, 0, 8, api.Conflict},
		{4, 4, 4, api.Interval}, {4, 4, 3, api.Interval}, {4, 5, 5, api.Interval}, {4, 3, 4, api.Interval}, {4, 4, api.MaxClock + 1, api.Interval}, {4, 1<<32 + 4, 1 << 33, api.Conflict},
		{7, 4, 8, api.OK}, {7, 4, 9, api.OK}, {7, 7, 9, api.Conflict}, {7, 8, 9, api.Conflict}, {7, 4, 7, api.Interval},
		{8, 4, 9, api.Conflict}, {8, 4, 8, api.Conflict}, {8, 9, 12, api.Conflict}, {8, 0, 0, api.Conflict}, {9, 4, 12, api.Conflict}, {far, 4, 12, api.Conflict},
	} {
		s := New(2, 1)
		made(t, s, 1, 0, 4, 8)
		made(t, s, 2, 0, 4, 8)
		if code := s.Update(q.now, 1, q.start, q.end, plain(), all()); code != q.want {
			t.Errorf("Update(%d, 1, %d, %d) = %d, want %d", q.now, q.start, q.end, code, q.want)
		}
		start, end := uint64(4), uint64(8)
		if q.want == api.OK {
			start, end = q.start, q.end
		}
		told(t, s, q.now, 1, state(q.now, start, end), start, end)
		told(t, s, q.now, 2, state(q.now, 4, 8), 4, 8)
	}
}

// P14.2: Update and Expire of numbers that are not kept: never given, refused, or swept.
func TestNotFound(t *testing.T) {
	s := New(2, 1)
	made(t, s, 1, 0, 0, 9)
	made(t, s, 2, 0, 0, 3)
	s.Make(0, 0, 9, plain(), all())
	swept(t, s, 4, 1, 2)
	before := look(s)
	for _, id := range []int{math.MinInt, math.MinInt + 1, -1, 0, 2, 3, 4, 1<<32 + 1, 257, api.MaxID, api.MaxID + 1, math.MaxInt} {
		for _, now := range []uint64{0, 4, 9, far} {
			given(t, s.Update(now, id, 0, 0, large(), all()), api.NotFound)
			given(t, s.Update(now, id, 0, 99, plain(), all()), api.NotFound)
			given(t, s.Update(now, id, 0, 99, nil, all()), api.Malformed)
			given(t, s.Expire(now, id), api.NotFound)
		}
	}
	unchanged(t, s, before)
}

// P14.2: an Update takes effect at once, in what Holds and Sweep answer as well.
func TestUpdateTakesEffect(t *testing.T) {
	s := New(3, 2)
	for id := range 3 {
		made(t, s, id+1, 0, 0, uint64(10+id))
	}
	given(t, s.Update(1, 2, 0, 20, plain(), all()), api.OK)
	given(t, s.Update(1, 3, 0, 5, plain(), api.Band{Lo: 1, Hi: 2}), api.OK)
	for _, q := range []struct {
		now  uint64
		v    float64
		want []int
	}{{1, 1, []int{1, 2, 3}}, {1, 0, []int{1, 2}}, {5, 1, []int{1, 2}}, {11, 1, []int{2}}, {19, 1, []int{2}}, {20, 1, nil}} {
		if got := s.Holds(q.now, ax(), q.v); !slices.Equal(got, q.want) {
			t.Error(q.now, q.v, got)
		}
	}
	given(t, s.Update(1, 1, 0, 10, []api.Matcher{is("a", "y")}, all()), api.OK)
	if got := s.Holds(1, ax(), 1); !slices.Equal(got, []int{2, 3}) {
		t.Error(got)
	}
	swept(t, s, 6, 3)
	swept(t, s, 7, 2, 3)
	swept(t, s, 12, 1, 1)
	swept(t, s, 21, 1)
	swept(t, s, 22, 0, 2)
}

// P14.2: Expire ends a silence now: one that pends never begins, one that is active keeps its start, one that is expired stays as it is.
func TestExpire(t *testing.T) {
	for _, q := range []struct {
		now        uint64
		want       api.Code
		start, end uint64
	}{
		{0, api.OK, 0, 0}, {1, api.OK, 1, 1}, {3, api.OK, 3, 3},
		{4, api.OK, 4, 4}, {5, api.OK, 4, 5}, {7, api.OK, 4, 7},
		{8, api.Conflict, 4, 8}, {9, api.Conflict, 4, 8}, {api.MaxClock, api.Conflict, 4, 8}, {far, api.Conflict, 4, 8},
	} {
		s := New(2, 1)
		band := api.Band{Lo: below(), Hi: 1}
		if id, code := s.Make(0, 4, 8, plain(), band); id != 1 || code != api.OK {
			t.Fatal(id, code)
		}
		made(t, s, 2, 0, 4, 8)
		if code := s.Expire(q.now, 1); code != q.want {
			t.Errorf("Expire(%d, 1) = %d, want %d", q.now, code, q.want)
		}
		for range 2 {
			if x, ok := s.Get(q.now, 1); !ok || !same(x, api.Silence{ID: 1, State: api.Expired, Start: q.start, End: q.end, Match: plain(), Band: band}) {
				t.Error(q, x)
			}
			told(t, s, q.now, 2, state(q.now, 4, 8), 4, 8)
			// It is expired by now, by hand or by itself.
			given(t, s.Expire(q.now, 1), api.Conflict)
			given(t, s.Update(q.now, 1, q.start, api.MaxClock, plain(), all()), api.Conflict)
		}
	}
}

// P14.2, P14.3: what is expired by hand is swept when its own retention is over, and its number never comes back.
func TestExpiredIsSwept(t *testing.T) {
	s := New(3, 10)
	made(t, s, 1, 0, 50, 60)
	made(t, s, 2, 0, 0, 60)
	made(t, s, 3, 0, 0, 7)
	given(t, s.Expire(5, 2), api.OK)
	given(t, s.Expire(4, 1), api.OK)
	if got := s.Holds(5, ax(), 0); !slices.Equal(got, []int{3}) {
		t.Error(got)
	}
	swept(t, s, 13, 3)
	swept(t, s, 14, 2, 1)
	swept(t, s, 15, 1, 2)
	swept(t, s, 16, 1)
	swept(t, s, 17, 0, 3)
	made(t, s, 4, 17, 17, 18)
}

// P14.2: Expire of the last moment, and at the clock's end.
func TestExpireAtTheEnd(t *testing.T) {
	s := New(2, api.MaxRetention)
	made(t, s, 1, 0, 0, api.MaxClock)
	made(t, s, 2, 0, api.MaxClock-1, api.MaxClock)
	given(t, s.Expire(api.MaxClock, 1), api.Conflict)
	given(t, s.Expire(api.MaxClock-1, 1), api.OK)
	given(t, s.Expire(api.MaxClock-1, 2), api.OK)
	told(t, s, api.MaxClock, 1, api.Expired, 0, api.MaxClock-1)
	told(t, s, api.MaxClock, 2, api.Expired, api.MaxClock-1, api.MaxClock-1)
	swept(t, s, api.MaxClock+api.MaxRetention-2, 2)
	swept(t, s, api.MaxClock+api.MaxRetention-1, 0, 1, 2)
}

// P14.3: Sweep removes what is gone, and nothing before, in the order of ends, and of numbers where the end is the same.
func TestSweep(t *testing.T) {
	fill := func() *Store {
		s := New(12, 3)
		for i, end := range []uint64{9, 4, 9, 1, 4, api.MaxClock, 10, 4, 9} {
			made(t, s, i+1, 0, 0, end)
		}
		return s
	}
	order := []int{4, 2, 5, 8, 1, 3, 9, 7, 6}
	for _, q := range []struct {
		now uint64
		out int
	}{
		{0, 0}, {3, 0}, {4, 1}, {5, 1}, {6, 1}, {7, 4}, {8, 4}, {11, 4}, {12, 7}, {13, 8}, {14, 8},
		{api.MaxClock, 8}, {api.MaxClock + 2, 8}, {api.MaxClock + 3, 9}, {1 << 63, 9}, {far, 9},
	} {
		s := fill()
		swept(t, s, q.now, 9-q.out, order[:q.out]...)
		for i, id := range order {
			if _, ok := s.Get(q.now, id); ok != (i >= q.out) {
				t.Errorf("after Sweep(%d), %d is kept: %v", q.now, id, ok)
			}
		}
		swept(t, s, 0, 9-q.out)
		swept(t, s, far, 0, order[q.out:]...)
		empty(t, s)
	}
}

// P14.3: Sweep looks at the time that it is told, also when that goes back; what was swept stays away.
func TestSweepBack(t *testing.T) {
	s := New(4, 2)
	made(t, s, 1, 0, 0, 5)
	made(t, s, 2, 0, 0, 6)
	swept(t, s, 7, 1, 1)
	swept(t, s, 3, 1)
	made(t, s, 3, 3, 0, 4)
	swept(t, s, 5, 2)
	swept(t, s, 6, 1, 3)
	told(t, s, 0, 2, api.Active, 0, 6)
	swept(t, s, 8, 0, 2)
}

// P14.2, P14.3: what is made after a sweep stands behind what has stayed, whatever was removed.
func TestAfterSweep(t *testing.T) {
	for out := range 1 << 4 {
		s := New(4, 1)
		var want []int
		for i := range 4 {
			end := uint64(9)
			if out>>i&1 == 1 {
				end = 1
			} else {
				want = append(want, i+1)
			}
			made(t, s, i+1, 0, 0, end)
		}
		s.Sweep(2)
		for next := 5; len(want) < 4; next++ {
			made(t, s, next, 2, 0, 9)
			want = append(want, next)
		}
		if got := s.Holds(2, ax(), 0); !slices.Equal(got, want) {
			t.Error(out, got, want)
		}
		for id := range 10 {
			if _, ok := s.Get(2, id); ok != slices.Contains(want, id) {
				t.Error(out, id, ok)
			}
		}
	}
}
