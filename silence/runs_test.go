package silence

import (
	"cmp"
	"slices"
	"testing"

	"sordine/api"
)

// An ask is a list of matchers, with what is to be known of it.
type ask struct {
	ms    []api.Matcher
	code  api.Code
	holds func(a, b string) bool // on labels a and b
}

// asks returns lists of matchers of all kinds.
func asks() []ask {
	never := func(a, b string) bool { return false }
	return []ask{
		{plain(), api.OK, func(a, b string) bool { return a == "x" }},
		{[]api.Matcher{is("a", "x"), is("b", "")}, api.OK, func(a, b string) bool { return a == "x" && b == "" }},
		{[]api.Matcher{{Kind: api.MUnequal, Name: "b", Value: "y"}}, api.OK, func(a, b string) bool { return b != "y" }},
		{[]api.Matcher{{Kind: api.MLike, Name: "a", Value: "x|z"}, {Kind: api.MUnlike, Name: "b", Value: "y+"}}, api.OK, func(a, b string) bool { return (a == "x" || a == "z") && b != "y" && b != "yy" }},
		{nil, api.Malformed, never},
		{[]api.Matcher{is("b", "y"), is("a", "x")}, api.Malformed, never},
		{large(), api.Large, never},
	}
}

// A within is a band, with what is to be known of it.
type within struct {
	b   api.Band
	may bool
	in  func(v float64) bool
}

// withins returns bands of all kinds.
func withins() []within {
	never := func(float64) bool { return false }
	return []within{
		{all(), true, func(float64) bool { return true }},
		{api.Band{Lo: 0, Hi: 1}, true, func(v float64) bool { return 0 <= v && v <= 1 }},
		{api.Band{Lo: below(), Hi: below()}, true, func(v float64) bool { return v == 0 }},
		{api.Band{Lo: 1, Hi: inf()}, true, func(v float64) bool { return v >= 1 }},
		{api.Band{Lo: 1, Hi: 0}, false, never},
		{api.Band{Lo: nan(), Hi: 1}, false, never},
		{api.Band{Any: true, Lo: below()}, false, never},
	}
}

// An entry is what the model keeps of a silence.
type entry struct {
	id         int
	start, end uint64
	ask        ask
	within     within
}

// told returns the silence as it is to be at now.
func (x entry) told(now uint64) api.Silence {
	return api.Silence{ID: x.id, State: state(now, x.start, x.end), Start: x.start, End: x.end, Match: x.ask.ms, Band: x.within.b}
}

// A pair is a store beside its model, which is a plain list; each change is made in both.
type pair struct {
	t          *testing.T
	s          *Store
	most, last int
	retention  uint64
	kept       []entry
	done       map[api.Code]int // how often a change had this answer
	gone       int              // silences that were swept
}

func newPair(t *testing.T, most int, retention uint64) *pair {
	return &pair{t: t, s: New(most, retention), most: most, retention: retention, done: map[api.Code]int{}}
}

// place returns where id is in the model; -1 if it is not there.
func (p *pair) place(id int) int {
	return slices.IndexFunc(p.kept, func(x entry) bool { return x.id == id })
}

// fault returns why a silence must not be like this at now, for what comes first and for what comes later.
func fault(now uint64, x entry) (first, later api.Code) {
	if x.ask.code == api.Malformed || !x.within.may {
		first = api.Malformed
	}
	if x.ask.code == api.Large {
		later = api.Large
	} else if x.end <= x.start || x.end <= now || x.end > api.MaxClock {
		later = api.Interval
	}
	return first, later
}

// make makes x, whose number does not count, in both, and checks the answer.
func (p *pair) make(now uint64, x entry) {
	p.t.Helper()
	want, later := fault(now, x)
	if want == api.OK {
		want = later
	}
	if want == api.OK && len(p.kept) == p.most {
		want = api.Quota
	}
	x.id = 0
	if want == api.OK {
		p.last++
		x.id = p.last
		p.kept = append(p.kept, x)
	}
	if id, code := p.s.Make(now, x.start, x.end, x.ask.ms, x.within.b); id != x.id || code != want {
		p.t.Fatalf("Make at %d of %v = %d, %d, want %d, %d", now, x, id, code, x.id, want)
	}
	p.done[want]++
}

// update gives the silence with x's number all else of x, in both, and checks the answer.
func (p *pair) update(now uint64, x entry) {
	p.t.Helper()
	first, later := fault(now, x)
	i := p.place(x.id)
	var old int
	if i >= 0 {
		old = state(now, p.kept[i].start, p.kept[i].end)
	}
	want := api.OK
	switch {
	case first != api.OK:
		want = first
	case i < 0:
		want = api.NotFound
	case old == api.Expired:
		want = api.Conflict
	case later != api.OK:
		want = later
	case old == api.Active && x.start != p.kept[i].start:
		want = api.Conflict
	default:
		p.kept[i] = x
	}
	if code := p.s.Update(now, x.id, x.start, x.end, x.ask.ms, x.within.b); code != want {
		p.t.Fatalf("Update at %d of %v = %d, want %d", now, x, code, want)
	}
	p.done[want]++
}

// expire expires id in both, and checks the answer.
func (p *pair) expire(now uint64, id int) {
	p.t.Helper()
	want := api.OK
	if i := p.place(id); i < 0 {
		want = api.NotFound
	} else if p.kept[i].end <= now {
		want = api.Conflict
	} else {
		p.kept[i].start, p.kept[i].end = min(now, p.kept[i].start), now
	}
	if code := p.s.Expire(now, id); code != want {
		p.t.Fatalf("Expire(%d, %d) = %d, want %d", now, id, code, want)
	}
	p.done[want]++
}

// sweep sweeps both, and checks the answer.
func (p *pair) sweep(now uint64) {
	p.t.Helper()
	var out []entry
	p.kept = slices.DeleteFunc(p.kept, func(x entry) bool {
		// No end here is so great that the sum is not one of 64 bits.
		gone := now >= x.end+p.retention
		if gone {
			out = append(out, x)
		}
		return gone
	})
	slices.SortFunc(out, func(a, b entry) int { return cmp.Or(cmp.Compare(a.end, b.end), cmp.Compare(a.id, b.id)) })
	var want []int
	for _, x := range out {
		want = append(want, x.id)
	}
	if got := p.s.Sweep(now); !slices.Equal(got, want) {
		p.t.Fatalf("Sweep(%d) = %v, want %v", now, got, want)
	}
	p.gone += len(out)
}

// check compares all that the store answers at now with the model.
func (p *pair) check(now uint64) {
	p.t.Helper()
	if p.s.Len() != len(p.kept) {
		p.t.Fatalf("Len() = %d, want %d", p.s.Len(), len(p.kept))
	}
	for which := -1; which < 5; which++ {
		var want []api.Silence
		for _, x := range p.kept {
			if y := x.told(now); which == 0 || which == y.State {
				want = append(want, y)
			}
		}
		if got := p.s.List(now, which); !slices.EqualFunc(got, want, same) {
			p.t.Fatalf("List(%d, %d) = %v, want %v", now, which, got, want)
		}
	}
	for id := -1; id < p.last+3; id++ {
		var want api.Silence
		i := p.place(id)
		if i >= 0 {
			want = p.kept[i].told(now)
		}
		if x, ok := p.s.Get(now, id); ok != (i >= 0) || !same(x, want) {
			p.t.Fatalf("Get(%d, %d) = %v, %v, want %v", now, id, x, ok, want)
		}
	}
}

// holds compares what the store says to these labels and this value with the model.
func (p *pair) holds(now uint64, a, b string, v float64) {
	p.t.Helper()
	var want []int
	for _, x := range p.kept {
		if x.start <= now && now < x.end && x.ask.holds(a, b) && x.within.in(v) {
			want = append(want, x.id)
		}
	}
	var l []api.Label
	for _, x := range []api.Label{{Name: "a", Value: a}, {Name: "b", Value: b}} {
		if x.Value != "" {
			l = append(l, x)
		}
	}
	if got := p.s.Holds(now, l, v); !slices.Equal(got, want) {
		p.t.Fatalf("Holds(%d, %v, %v) = %v, want %v", now, l, v, got, want)
	}
}

// short makes the change number c of 16 in p at now, and returns the time behind it.
func (p *pair) short(now uint64, c int) uint64 {
	p.t.Helper()
	spans := [][2]uint64{{0, 1}, {0, 3}, {1, 2}, {2, 4}}
	with := func(id, i int) entry {
		return entry{id: id, start: spans[i][0], end: spans[i][1], ask: asks()[0], within: withins()[0]}
	}
	switch {
	case c < 4:
		p.make(now, with(0, c))
	case c < 12:
		p.update(now, with(1+c/8, c%4))
	case c < 14:
		p.expire(now, c-11)
	case c == 14:
		p.sweep(now)
	default:
		now++
	}
	return now
}

// P14.2, P14.3: every run of four changes of a small store, behind each of some beginnings, answers as the model does.
func TestEveryShortRun(t *testing.T) {
	const long, changes = 4, 16
	runs := 1
	for range long {
		runs *= changes
	}
	// The last beginning is a store whose first silence was swept.
	for _, beginning := range [][]int{nil, {1, 3}, {0, 3, 15, 15, 14}} {
		// The whole run is told by one number: each of its digits is one change.
		for run := range runs {
			p := newPair(t, 2, 1)
			now := uint64(0)
			for _, c := range beginning {
				now = p.short(now, c)
			}
			rest := run
			for range long {
				now = p.short(now, rest%changes)
				rest /= changes
			}
			for _, x := range p.kept {
				if y, ok := p.s.Get(now, x.id); !ok || !same(y, x.told(now)) {
					t.Fatal(beginning, run, x, y, ok)
				}
			}
			p.holds(now, "x", "", 0)
			p.sweep(3)
			p.sweep(9)
			if p.s.Len() != 0 {
				t.Fatal(beginning, run, p.s.Len())
			}
		}
	}
}

// P14.2, P14.3: long runs, in an order of no kind, with everything that may be given; some of them with times that go back.
func TestLongRuns(t *testing.T) {
	for _, q := range []struct {
		most      int
		retention uint64
		back      bool
	}{{1, 1, false}, {2, 5, false}, {3, 2, true}, {5, 9, false}, {12, 3, false}, {12, 12, true}} {
		p := newPair(t, q.most, q.retention)
		word := uint32(q.most)
		draw := func(n int) int {
			word = word*1664525 + 1013904223
			return int(word>>8) % n
		}
		// Mostly what may be, so that enough is kept.
		pick := func(good, whole int) int {
			if draw(8) > 0 {
				return draw(good)
			}
			return draw(whole)
		}
		clock := uint64(0)
		for range 3000 {
			now := clock
			if q.back {
				now -= min(now, uint64(draw(6)))
			}
			start := now + uint64(draw(8)) - min(now, uint64(draw(4)))
			x := entry{id: p.last + 1 - draw(2*q.most+2), start: start, end: start + uint64(draw(9)), ask: asks()[pick(4, 7)], within: withins()[pick(4, 7)]}
			switch draw(8) {
			case 0, 1, 2:
				p.make(now, x)
			case 3, 4:
				if i := p.place(x.id); i >= 0 && draw(2) == 0 {
					x.start = p.kept[i].start
				}
				p.update(now, x)
			case 5:
				p.expire(now, x.id)
			case 6:
				p.sweep(now)
			default:
				clock += uint64(draw(4))
			}
			// Every number that was ever given would make this test slow.
			if len(p.kept) > 0 && draw(8) == 0 {
				p.check(now)
			}
			a, b := []string{"x", "z", ""}[draw(3)], []string{"y", "yy", ""}[draw(3)]
			p.holds(now, a, b, []float64{0, below(), 1, 0.5, -1, inf(), -inf(), nan()}[draw(8)])
		}
		p.check(clock)
		for _, code := range []api.Code{api.OK, api.Malformed, api.NotFound, api.Conflict, api.Large, api.Interval, api.Quota} {
			if p.done[code] < 20 {
				t.Error("the run tells too little", q, code, p.done)
			}
		}
		if p.gone < 50 {
			t.Error("the run tells too little", q, p.gone)
		}
	}
}

// R4: two stores with the same changes have the same answers, whatever is asked of one of them between.
func TestAskingChangesNothing(t *testing.T) {
	a, b := newPair(t, 4, 2), newPair(t, 4, 2)
	now := uint64(0)
	for i := range 400 {
		x := entry{start: now + uint64(i%3), end: now + uint64(i%5), ask: asks()[i%4], within: withins()[i%4]}
		for _, p := range []*pair{a, b} {
			switch i % 7 {
			case 0, 1, 2, 3:
				p.make(now, x)
			case 4:
				p.expire(now, p.last-i%3)
			case 5:
				x.id = p.last
				p.update(now, x)
			default:
				p.sweep(now)
			}
		}
		for range 3 {
			a.check(now)
			a.check(0)
			a.check(far)
			a.holds(now, "x", "", 0)
		}
		if i%4 == 3 {
			now++
		}
	}
	b.check(now)
	if b.last < 50 || b.gone < 20 {
		t.Error("the run tells too little", b.last, b.gone)
	}
}
