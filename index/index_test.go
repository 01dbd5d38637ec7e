package index

import (
	"math"
	"slices"
	"strconv"
	"strings"
	"testing"

	"sordine/api"
	"sordine/labels"
	"sordine/match"
)

const (
	longName  = "abcdefghijkl"
	longValue = "0123456789abcdefghijklmn"
)

// list returns the labels with the names and values of pairs, one behind the other.
func list(pairs ...string) []api.Label {
	var l []api.Label
	for i := 0; i < len(pairs); i += 2 {
		l = append(l, api.Label{Name: pairs[i], Value: pairs[i+1]})
	}
	return l
}

// most returns a label set with as many labels, and as many bytes in each, as may be.
func most() []api.Label {
	var l []api.Label
	for i := range api.MaxLabels {
		l = append(l, api.Label{Name: longName[:11] + string(rune('a'+i)), Value: longValue})
	}
	return l
}

// sets returns label sets that share names, values, or whole labels, or nearly do.
func sets() [][]api.Label {
	return [][]api.Label{
		list("a", "x"),
		list("a", "y"),
		list("a", "xy"),
		list("A", "x"),
		list("ax", "y"),
		list("b", "x"),
		list("a", "x", "b", "x"),
		list("a", "x", "b", "y"),
		list("a", "y", "b", "x"),
		list("a", "b", "b", "a"),
		list("_", "\x00", "a", "\xff\x80", "b", "\u00e9"),
		list("a", "(", "c", "x*"),
		list(longName, longValue),
		most(),
	}
}

// notSets returns lists that are no label sets.
func notSets() [][]api.Label {
	return [][]api.Label{
		nil,
		{},
		list("", "x"),
		list("a", ""),
		list("", ""),
		list("1a", "x"),
		list("a-", "x"),
		list(longName+"m", "x"),
		list("a", longValue+"o"),
		list("b", "x", "a", "x"),
		list("a", "x", "a", "x"),
		list("a", "x", "a", "y"),
		list("a", "x", "b", "x", "b", "x"),
		list("a", "x", "b", ""),
		append(most(), api.Label{Name: "z", Value: "x"}),
		list("a", "x", "b", "x")[:0],
	}
}

// edges returns ids at the edges, in no order.
func edges() []int {
	return []int{5, -1, math.MaxInt, 0, math.MinInt, 1, -7, math.MaxInt32 + 1, math.MinInt32 - 1, math.MaxInt - 1, math.MinInt + 1}
}

// one is an id with its labels; a model is what the tests hold an index to be, which is a plain list of these.
type one struct {
	id  int
	set []api.Label
}

type model []one

// at returns where id stands in the model, or -1.
func (o model) at(id int) int {
	return slices.IndexFunc(o, func(each one) bool { return each.id == id })
}

// those returns the ids whose labels are wanted, ascending.
func (o model) those(wanted func(l []api.Label) bool) []int {
	var ids []int
	for _, each := range o {
		if wanted(each.set) {
			ids = append(ids, each.id)
		}
	}
	slices.Sort(ids)
	return ids
}

// held returns all labels that the ids have, each once, in no order.
func (o model) held() []api.Label {
	var all []api.Label
	for _, each := range o {
		for _, label := range each.set {
			if !slices.Contains(all, label) {
				all = append(all, label)
			}
		}
	}
	return all
}

// pair is an index beside its model; each change is made in both.
type pair struct {
	t *testing.T
	x *Index
	o model
}

func newPair(t *testing.T) *pair { return &pair{t: t, x: New()} }

// add adds to both, and checks the answer.
func (p *pair) add(id int, l []api.Label) {
	p.t.Helper()
	want := p.o.at(id) < 0 && labels.Is(l)
	if p.x.Add(id, l) != want {
		p.t.Fatalf("Add(%d, %q) = %v, with %v", id, l, !want, p.o)
	}
	if want {
		p.o = append(p.o, one{id, slices.Clone(l)})
	}
}

// drop drops from both, and checks the answer.
func (p *pair) drop(id int) {
	p.t.Helper()
	i := p.o.at(id)
	if p.x.Drop(id) != (i >= 0) {
		p.t.Fatalf("Drop(%d) = %v, with %v", id, i < 0, p.o)
	}
	if i >= 0 {
		p.o = slices.Delete(p.o, i, i+1)
	}
}

// check compares all that the index answers, but Find, with the model.
func (p *pair) check() {
	p.t.Helper()
	all := p.o.held()
	if p.x.Len() != len(all) {
		p.t.Fatalf("Len() = %d, want %d, with %v", p.x.Len(), len(all), p.o)
	}
	p.same("IDs", p.x.IDs(), p.o.those(func([]api.Label) bool { return true }))
	names := []string{"", "a", "b", "z"}
	values := []string{"", "x", "y", "z"}
	for _, label := range all {
		names = append(names, label.Name)
		values = append(values, label.Value)
	}
	for _, name := range names {
		var want []string
		for _, value := range values {
			label := api.Label{Name: name, Value: value}
			has := func(l []api.Label) bool { return slices.Contains(l, label) }
			p.same("Posting", p.x.Posting(name, value), p.o.those(has), name, value)
			if slices.Contains(all, label) && !slices.Contains(want, value) {
				want = append(want, value)
			}
		}
		slices.Sort(want)
		if got := p.x.Values(name); !slices.Equal(got, want) {
			p.t.Fatalf("Values(%q) = %q, want %q, with %v", name, got, want, p.o)
		}
	}
}

// find compares what Find answers with the model.
func (p *pair) find(ms ...api.Matcher) {
	p.t.Helper()
	want := p.o.those(func(l []api.Label) bool { return match.All(ms, l) })
	p.same("Find", p.x.Find(ms), want, ms)
}

// same fails the test unless got is want; args are what the call was given.
func (p *pair) same(what string, got, want []int, args ...any) {
	p.t.Helper()
	if !slices.Equal(got, want) {
		p.t.Fatalf("%s(%.200v) = %v, want %v, with %v", what, args, got, want, p.o)
	}
}

// P10.1: nothing is in a new index, whatever it is asked.
func TestNewIsEmpty(t *testing.T) {
	p := newPair(t)
	p.check()
	for _, id := range edges() {
		p.drop(id)
	}
	p.check()
	if len(p.x.IDs()) != 0 || p.x.Len() != 0 || len(p.x.Posting("a", "x")) != 0 || len(p.x.Values("a")) != 0 {
		t.Error("something is in a new index")
	}
}

// P10.1: each id with its labels, named one by one.
func TestKnownIndex(t *testing.T) {
	x := New()
	for _, q := range []struct {
		id   int
		l    []api.Label
		want bool
	}{
		{7, list("a", "x", "b", "x"), true},
		{-3, list("a", "x"), true},
		{7, list("a", "y"), false},
		{0, list("b", "x", "c", "\xff"), true},
		{4, list("b", "x", "a", "x"), false},
		{2, list("a", "x\x00", "c", "\x00"), true},
	} {
		if x.Add(q.id, q.l) != q.want {
			t.Errorf("Add(%d, %q) = %v", q.id, q.l, !q.want)
		}
	}
	if ids := x.IDs(); !slices.Equal(ids, []int{-3, 0, 2, 7}) || x.Len() != 5 {
		t.Errorf("IDs() = %v, Len() = %d", ids, x.Len())
	}
	for _, q := range []struct {
		name, value string
		want        []int
	}{
		{"a", "x", []int{-3, 7}},
		{"a", "x\x00", []int{2}},
		{"a", "y", nil},
		{"a", "", nil},
		{"b", "x", []int{0, 7}},
		{"c", "\xff", []int{0}},
		{"c", "\x00", []int{2}},
		{"c", "x", nil},
		{"d", "x", nil},
		{"ax", "", nil},
		{"", "", nil},
		{"x", "a", nil},
		{"A", "x", nil},
	} {
		if ids := x.Posting(q.name, q.value); !slices.Equal(ids, q.want) {
			t.Errorf("Posting(%q, %q) = %v", q.name, q.value, ids)
		}
	}
	for name, want := range map[string][]string{"a": {"x", "x\x00"}, "b": {"x"}, "c": {"\x00", "\xff"}, "": nil, "d": nil, "A": nil, "aa": nil, "x": nil} {
		if values := x.Values(name); !slices.Equal(values, want) {
			t.Errorf("Values(%q) = %q", name, values)
		}
	}
}

// P10.1: each label set at each id, negative ones and those at the edges included.
func TestAddOfEverySet(t *testing.T) {
	for _, id := range edges() {
		for _, l := range sets() {
			p := newPair(t)
			p.add(id, l)
			p.check()
			p.same("IDs", p.x.IDs(), []int{id}, id)
			if p.x.Len() != len(l) {
				t.Errorf("Len() = %d with %q", p.x.Len(), l)
			}
		}
	}
}

// P10.1: ids come ascending, in whatever order they were added.
func TestIDsAscend(t *testing.T) {
	p := newPair(t)
	for i, id := range edges() {
		p.add(id, sets()[i%3])
		p.check()
	}
	for _, id := range []int{1, math.MinInt, math.MaxInt, 0} {
		p.drop(id)
		p.check()
	}
}

// P10.1: what is no label set is refused, for an id that is in the index too, and nothing is left of it.
func TestAddOfNoSet(t *testing.T) {
	p := newPair(t)
	for _, l := range notSets() {
		if p.x.Add(1, l) {
			t.Errorf("Add(1, %q) = true", l)
		}
		p.check()
		p.drop(1)
	}
	p.add(1, list("a", "x"))
	for _, l := range notSets() {
		p.add(1, l)
		p.add(2, l)
		p.check()
	}
	p.add(2, list("b", "y"))
	p.check()
}

// P10.1: an id keeps its first labels until it is dropped.
func TestAddOfAnIdThatIsThere(t *testing.T) {
	for _, first := range sets() {
		for _, second := range sets() {
			p := newPair(t)
			p.add(3, first)
			if p.x.Add(3, second) {
				t.Errorf("Add of %q behind %q = true", second, first)
			}
			p.check()
			p.drop(3)
			p.check()
			p.add(3, second)
			p.check()
		}
	}
}

// P10.1: an id that was never added, or is dropped already, is not dropped, and nobody else is.
func TestDropOfNobody(t *testing.T) {
	p := newPair(t)
	p.add(1, list("a", "x"))
	p.add(-2, list("a", "x"))
	for _, id := range append(edges(), 2, -2, -2) {
		if id != 1 {
			p.drop(id)
			p.check()
		}
	}
	p.drop(1)
	p.drop(1)
	p.check()
}

// P10.1: a label stays while somebody has it; with its last id it goes, and its value with it.
func TestDropOfTheLastIdOfALabel(t *testing.T) {
	p := newPair(t)
	p.add(1, list("a", "x", "b", "y"))
	p.add(2, list("a", "x"))
	p.add(3, list("a", "z", "b", "x"))
	for _, q := range []struct {
		id, length int
		posting    []int
		values     []string
	}{
		{1, 3, []int{2}, []string{"x", "z"}},
		{2, 2, nil, []string{"z"}},
		{3, 0, nil, nil},
	} {
		p.drop(q.id)
		p.check()
		p.same("Posting", p.x.Posting("a", "x"), q.posting)
		if values := p.x.Values("a"); p.x.Len() != q.length || !slices.Equal(values, q.values) {
			t.Errorf("without %d: Len() = %d, Values(a) = %q", q.id, p.x.Len(), values)
		}
	}
	p.add(2, list("a", "x"))
	p.check()
}

// P10.1: an id that is dropped and added again has its new labels, and nothing of the old ones.
func TestAddAgainWithOtherLabels(t *testing.T) {
	p := newPair(t)
	p.add(9, list("a", "y"))
	for range 3 {
		for _, l := range sets() {
			p.add(4, l)
			p.check()
			p.drop(4)
			p.check()
		}
	}
	p.same("IDs", p.x.IDs(), []int{9})
}

// step makes the change with the number n: an Add or a Drop of one of two ids, or an Add of no label set.
func (p *pair) step(n int) {
	p.t.Helper()
	id := n % 2
	switch n / 2 {
	case 0:
		p.drop(id)
	case 1:
		p.add(id, list("a", "x"))
	case 2:
		p.add(id, list("a", "y", "b", "x"))
	case 3:
		p.add(id, list("b", "x", "a", "x"))
	}
}

// P10.1, P10.2: every run of five changes, and with those that are refused every shorter one, with all answers behind it.
func TestEveryShortRun(t *testing.T) {
	const changes, longest = 8, 5
	for run := range 1 << (3 * longest) {
		p := newPair(t)
		n := run
		for range longest {
			p.step(n % changes)
			n /= changes
		}
		p.check()
		p.find()
		p.find(api.Matcher{Kind: api.MEqual, Name: "a", Value: "x"})
		p.find(api.Matcher{Kind: api.MUnequal, Name: "b", Value: "x"})
		p.find(api.Matcher{Kind: api.MUnequal, Name: "b", Value: ""}, api.Matcher{Kind: api.MLike, Name: "a", Value: "x|y"})
	}
}

// P10.1: many ids, with labels that many have and labels that one alone has.
func TestManyIDs(t *testing.T) {
	const many = 1500
	p := newPair(t)
	for i := range many {
		id := i*7919%many - many/2
		p.add(id, list("all", "x", "own", strconv.Itoa(id), "third", strconv.Itoa(i%3)))
	}
	if ids := p.x.IDs(); len(ids) != many || !slices.IsSorted(ids) || ids[0] != -many/2 || p.x.Len() != 1+many+3 {
		t.Errorf("%d ids from %d on, Len() = %d", len(ids), ids[0], p.x.Len())
	}
	if values := p.x.Values("own"); len(values) != many || !slices.IsSorted(values) {
		t.Errorf("%d values", len(values))
	}
	p.same("Posting", p.x.Posting("all", "x"), p.x.IDs())
	p.same("Posting", p.x.Posting("own", "-7"), []int{-7})
	for _, id := range p.x.IDs() {
		if id != 11 && id != -12 {
			p.drop(id)
		}
	}
	p.check()
	p.same("Posting", p.x.Posting("all", "x"), []int{-12, 11})
}

// P10.1: two indexes know nothing of each other.
func TestTwoIndexes(t *testing.T) {
	p, q := newPair(t), newPair(t)
	p.add(1, list("a", "x"))
	q.check()
	q.add(1, list("a", "y"))
	q.add(2, list("a", "x"))
	p.check()
	p.drop(1)
	q.check()
}

// spoil writes over l and over its spare capacity.
func spoil[T any](l []T, with T) {
	l = l[:cap(l)]
	for i := range l {
		l[i] = with
	}
}

// R2: the labels that were handed in may be changed behind the call, and the memory behind them is left alone.
func TestAddKeepsNothingOfItsArgument(t *testing.T) {
	p := newPair(t)
	room := list("a", "x", "b", "y", "c", "z", "d", "q")
	before := slices.Clone(room)
	for id := range 3 {
		p.add(id, room[:2])
	}
	p.add(3, room[2:3])
	p.add(3, room[:1])
	p.add(4, room[:0])
	if !slices.Equal(room, before) {
		t.Errorf("Add made %q of its argument", room)
	}
	spoil(room, api.Label{Name: "q", Value: "q"})
	p.check()
	p.drop(1)
	p.check()
	p.find(api.Matcher{Kind: api.MEqual, Name: "b", Value: "y"})
}

// R2: what was handed out may be changed.
func TestResultsAreNew(t *testing.T) {
	p := newPair(t)
	for id := range 7 {
		p.add(id, list("a", "x", "b", strings.Repeat("y", 1+id/2)))
	}
	equal := []api.Matcher{{Kind: api.MEqual, Name: "a", Value: "x"}}
	unequal := []api.Matcher{{Kind: api.MUnequal, Name: "a", Value: "z"}}
	for range 2 {
		for _, call := range []func() []int{
			p.x.IDs,
			func() []int { return p.x.Posting("a", "x") },
			func() []int { return p.x.Posting("b", "y") },
			func() []int { return p.x.Find(nil) },
			func() []int { return p.x.Find(equal) },
			func() []int { return p.x.Find(unequal) },
		} {
			first, second := call(), call()
			want := slices.Clone(second)
			spoil(first, -9)
			p.same("a result", second, want)
			p.same("a later result", call(), want)
			p.check()
		}
		first, second := p.x.Values("b"), p.x.Values("b")
		want := slices.Clone(second)
		spoil(first, "q")
		if !slices.Equal(second, want) {
			t.Errorf("Values(b) = %q, want %q", second, want)
		}
		p.check()
		p.drop(3)
	}
}

// R2: a result stays as it is when the index changes.
func TestResultsStay(t *testing.T) {
	p := newPair(t)
	for id := range 5 {
		p.add(id, list("a", "x", "b", strconv.Itoa(id)))
	}
	ms := []api.Matcher{{Kind: api.MEqual, Name: "a", Value: "x"}}
	ids, posting, found, values := p.x.IDs(), p.x.Posting("a", "x"), p.x.Find(ms), p.x.Values("b")
	for id := range 5 {
		p.drop(id)
		p.add(id-9, list("a", "x", "b", strconv.Itoa(id-9)))
	}
	want := []int{0, 1, 2, 3, 4}
	p.same("an older IDs", ids, want)
	p.same("an older Posting", posting, want)
	p.same("an older Find", found, want)
	if !slices.Equal(values, []string{"0", "1", "2", "3", "4"}) {
		t.Errorf("an older Values is %q", values)
	}
}

// R4: the same labels give the same answers, in whatever order they came, and however often it is asked.
func TestAnswersDoNotHangOnOrder(t *testing.T) {
	forward, backward := newPair(t), newPair(t)
	for i := range 40 {
		l := list("a", strconv.Itoa(i%10), "b", strconv.Itoa(i%7))
		forward.add(i, l)
		j := 39 - i
		backward.add(j, list("a", strconv.Itoa(j%10), "b", strconv.Itoa(j%7)))
	}
	ms := []api.Matcher{{Kind: api.MLike, Name: "a", Value: "[2-8]"}, {Kind: api.MUnlike, Name: "b", Value: "[135]|"}}
	want := backward.x.Find(ms)
	for range 20 {
		forward.same("Find", forward.x.Find(ms), want, ms)
		forward.same("IDs", forward.x.IDs(), backward.x.IDs())
		if got := forward.x.Values("b"); !slices.Equal(got, []string{"0", "1", "2", "3", "4", "5", "6"}) {
			t.Errorf("Values(b) = %q", got)
		}
	}
}
