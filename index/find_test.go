package index

import (
	"math"
	"slices"
	"strings"
	"testing"

	"sordine/api"
)

// m returns a matcher.
func m(kind int, name, value string) api.Matcher {
	return api.Matcher{Kind: kind, Name: name, Value: value}
}

// matchers returns matchers of each kind: such that labels satisfy, such that a label which is not there satisfies, such that may not be, and such that are too large.
func matchers() []api.Matcher {
	var all []api.Matcher
	for _, kind := range []int{api.MEqual, api.MUnequal, api.MLike, api.MUnlike, 0, 5, -1, math.MaxInt} {
		for _, name := range []string{"a", "b", "z", longName, "", "9"} {
			for _, value := range []string{"", "x", "xy", "x|", "x.*", ".*", "(", strings.Repeat("x", 25), strings.Repeat("x", 40), strings.Repeat("x", 41)} {
				all = append(all, m(kind, name, value))
			}
		}
	}
	return all
}

// full returns an index in which each of sets has two ids, the first of them negative, beside its model.
func full(t *testing.T) *pair {
	p := newPair(t)
	for i, l := range sets() {
		p.add(i+1, l)
		p.add(-i-1, l)
	}
	return p
}

// P10.2, and the chapter's section 'Runs'.
func TestFindOfKnownLabels(t *testing.T) {
	x := New()
	for id, l := range [][]api.Label{1: list("a", "x"), 2: list("b", "y"), 3: list("a", "xy", "b", "y"), 4: list("a", "y", "c", "(")} {
		if x.Add(id, l) != (id > 0) {
			t.Errorf("Add(%d, %q) = %v", id, l, id == 0)
		}
	}
	for _, q := range []struct {
		ms   []api.Matcher
		want []int
	}{
		{nil, []int{1, 2, 3, 4}},
		{[]api.Matcher{}, []int{1, 2, 3, 4}},
		{[]api.Matcher{m(api.MEqual, "a", "x")}, []int{1}},
		{[]api.Matcher{m(api.MEqual, "a", "")}, []int{2}},
		{[]api.Matcher{m(api.MEqual, "a", "z")}, nil},
		{[]api.Matcher{m(api.MEqual, "z", "x")}, nil},
		{[]api.Matcher{m(api.MEqual, "z", "")}, []int{1, 2, 3, 4}},
		{[]api.Matcher{m(api.MEqual, "c", "(")}, []int{4}},
		{[]api.Matcher{m(api.MUnequal, "a", "x")}, []int{2, 3, 4}},
		{[]api.Matcher{m(api.MUnequal, "a", "")}, []int{1, 3, 4}},
		{[]api.Matcher{m(api.MUnequal, "a", "z")}, []int{1, 2, 3, 4}},
		{[]api.Matcher{m(api.MUnequal, "z", "")}, nil},
		{[]api.Matcher{m(api.MUnequal, "z", "x")}, []int{1, 2, 3, 4}},
		{[]api.Matcher{m(api.MLike, "a", "x.?")}, []int{1, 3}},
		{[]api.Matcher{m(api.MLike, "a", "x|")}, []int{1, 2}},
		{[]api.Matcher{m(api.MLike, "a", "[xy]+")}, []int{1, 3, 4}},
		{[]api.Matcher{m(api.MLike, "a", ".*")}, []int{1, 2, 3, 4}},
		{[]api.Matcher{m(api.MLike, "z", ".+")}, nil},
		{[]api.Matcher{m(api.MUnlike, "a", "x.?")}, []int{2, 4}},
		{[]api.Matcher{m(api.MUnlike, "a", "x|")}, []int{3, 4}},
		{[]api.Matcher{m(api.MUnlike, "a", ".*")}, nil},
		{[]api.Matcher{m(api.MUnlike, "z", ".+")}, []int{1, 2, 3, 4}},

		{[]api.Matcher{m(api.MUnequal, "a", "x"), m(api.MEqual, "b", "y")}, []int{2, 3}},
		{[]api.Matcher{m(api.MEqual, "b", "y"), m(api.MUnequal, "a", "x"), m(api.MUnequal, "a", "")}, []int{3}},
		{[]api.Matcher{m(api.MEqual, "a", "x"), m(api.MEqual, "b", "y")}, nil},
		{[]api.Matcher{m(api.MEqual, "a", "x"), m(api.MEqual, "a", "y")}, nil},
		{[]api.Matcher{m(api.MEqual, "a", "x"), m(api.MEqual, "a", "x")}, []int{1}},
	} {
		if got := x.Find(q.ms); !slices.Equal(got, q.want) {
			t.Errorf("Find(%v) = %v, want %v", q.ms, got, q.want)
		}
	}
}

// P10.2: no matchers at all let everybody through, and nobody is in an empty index.
func TestFindOfNothing(t *testing.T) {
	empty, p := newPair(t), full(t)
	some := []api.Matcher{m(api.MEqual, "a", "x")}
	for _, ms := range [][]api.Matcher{nil, {}, some[:0]} {
		p.same("Find", p.x.Find(ms), p.x.IDs(), ms)
		empty.same("Find", empty.x.Find(ms), nil, ms)
	}
	for _, each := range matchers() {
		empty.find(each)
		empty.same("Find", empty.x.Find([]api.Matcher{each}), nil, each)
	}
}

// P10.2: matchers that may not be, or are too large, hold on nobody, behind and before others that do; their opposites neither.
func TestFindOfWrongMatchers(t *testing.T) {
	p := full(t)
	p.add(100, list("a", "(", "b", strings.Repeat("x", 24)))
	wrong := []api.Matcher{
		{},
		m(0, "a", "x"),
		m(5, "a", "x"),
		m(-1, "a", ""),
		m(256+api.MEqual, "a", "x"),
		m(api.MEqual, "", ""),
		m(api.MUnequal, "9", "x"),
		m(api.MEqual, longName+"m", ""),
		m(api.MUnequal, "a", strings.Repeat("x", 25)),
		m(api.MLike, "a", "("),
		m(api.MUnlike, "a", "("),
		m(api.MUnlike, "z", "*"),
		m(api.MLike, "z", strings.Repeat("|", 40)),
		m(api.MLike, "a", strings.Repeat("|", 40)),
		m(api.MUnlike, "a", strings.Repeat("x", 40)),
		m(api.MUnlike, "z", strings.Repeat("x", 40)),
		m(api.MUnlike, "z", strings.Repeat("x", 41)),
	}
	good := m(api.MUnequal, "z", "x")
	for _, each := range wrong {
		for _, ms := range [][]api.Matcher{{each}, {good, each}, {each, good}, {good, each, good}} {
			p.same("Find", p.x.Find(ms), nil, ms)
		}
	}
	p.same("Find", p.x.Find([]api.Matcher{good}), p.x.IDs(), good)
}

// P10.2: each matcher alone.
func TestFindOfEachMatcher(t *testing.T) {
	p := full(t)
	for _, each := range matchers() {
		p.find(each)
	}
}

// P10.2: two matchers in each order, of one name or of two.
func TestFindOfTwoMatchers(t *testing.T) {
	p := full(t)
	for _, first := range matchers() {
		if first.Kind < api.MEqual || first.Kind > api.MUnlike {
			continue
		}
		for _, second := range matchers() {
			if second.Name == "a" || second.Name == "b" {
				p.find(first, second)
			}
		}
	}
}

// P10.2: any matchers may be asked for, in any order, several times, and more of them than a list has.
func TestFindOfManyMatchers(t *testing.T) {
	p := full(t)
	var ms []api.Matcher
	for _, each := range []api.Matcher{m(api.MUnequal, "z", "x"), m(api.MLike, "b", "x|y|"), m(api.MEqual, "z", ""), m(api.MUnlike, "a", "y.*"), m(api.MUnequal, "a", "b"), m(api.MLike, "b", "x?"), m(api.MUnequal, "A", "x"), m(api.MUnequal, "b", "y"), m(api.MUnequal, "b", "")} {
		ms = append(ms, each)
		p.find(ms...)
		p.find(slices.Concat(ms, ms, ms)...)
		reversed := slices.Clone(ms)
		slices.Reverse(reversed)
		p.find(reversed...)
	}
	if found := p.x.Find(ms); !slices.Equal(found, []int{-7, -6, 6, 7}) {
		t.Errorf("Find(%v) = %v", ms, found)
	}
}

// P10.2: who is dropped is not found any more, and who is added again is found by the new labels.
func TestFindBehindChanges(t *testing.T) {
	p := full(t)
	some := []api.Matcher{m(api.MEqual, "a", "x"), m(api.MUnequal, "a", "x"), m(api.MUnequal, "a", ""), m(api.MLike, "b", "x|"), m(api.MUnlike, "b", "x|"), m(api.MEqual, "b", "")}
	for i, l := range sets() {
		p.drop(i + 1)
		for _, each := range some {
			p.find(each)
		}
		p.add(i+1, list("a", "z", "b", "z"))
		p.add(1000+i, l)
		p.drop(-i - 1)
		for _, each := range some {
			p.find(each)
		}
	}
	p.find()
	p.check()
}

// R2: the matchers that are handed in stay as they are, with the memory behind them; and nothing behind them is read (R5).
func TestFindLeavesItsArgument(t *testing.T) {
	p := full(t)
	room := []api.Matcher{m(api.MUnequal, "b", ""), m(api.MEqual, "a", "x"), m(api.MEqual, "z", "z"), {}}
	before := slices.Clone(room)
	p.find(room[:2]...)
	p.same("Find", p.x.Find(room[:2]), []int{-8, -7, 7, 8}, room[:2])
	if !slices.Equal(room, before) {
		t.Errorf("Find made %v of its argument", room)
	}
	p.check()
}

// R1: names and values may be long, and much may be asked.
func TestFindOfLongTexts(t *testing.T) {
	p := full(t)
	long := strings.Repeat("a", 1<<20)
	p.find(m(api.MUnequal, long, long))
	p.find(m(api.MUnequal, "a", long))
	p.find(m(api.MUnlike, "a", long))
	p.find(slices.Repeat([]api.Matcher{m(api.MLike, "a", "((x|y)*)*")}, 1000)...)
	p.same("Posting", p.x.Posting(long, long), nil)
	if values := p.x.Values(long); len(values) != 0 {
		t.Errorf("%d values", len(values))
	}
}
