package match

import (
	"slices"
	"testing"

	"sordine/api"
)

// rising returns matchers in the order that the chapter says: by name, then by kind, then by value.
func rising() []api.Matcher {
	return []api.Matcher{
		m(api.MUnlike, "A", "z"),
		m(api.MEqual, "Z", "9"),
		m(api.MEqual, "_", ""),
		m(api.MEqual, "a", ""),
		m(api.MEqual, "a", "\x00"),
		m(api.MEqual, "a", "1"),
		m(api.MEqual, "a", "10"),
		m(api.MEqual, "a", "2"),
		m(api.MEqual, "a", "\xff"),
		m(api.MUnequal, "a", ""),
		m(api.MUnequal, "a", "1"),
		m(api.MLike, "a", ""),
		m(api.MLike, "a", "(x)"),
		m(api.MLike, "a", many("x", 40)),
		m(api.MUnlike, "a", ""),
		m(api.MUnlike, "a", "1"),
		m(api.MEqual, "a0", "1"),
		m(api.MEqual, "aa", ""),
		m(api.MEqual, longName, many("x", 24)),
		m(api.MUnequal, "b", ""),
	}
}

// lists returns lists of every count of matchers.
func lists() [][]api.Matcher {
	all := [][]api.Matcher{nil, {}}
	ms := rising()
	for n := 1; n <= 5; n++ {
		for i := range len(ms) - n + 1 {
			all = append(all, ms[i:i+n])
		}
		all = append(all, most()[:n])
	}
	return all
}

// most returns a list with as many matchers, and as many bytes in each, as may be.
func most() []api.Matcher {
	var ms []api.Matcher
	for i := range 5 {
		ms = append(ms, m(api.MLike+i%2, longName[:11]+string(rune('a'+i)), many("|", 40)))
	}
	return ms
}

// notLists returns what is no list, in this order or in any.
func notLists() [][]api.Matcher {
	one, two := m(api.MEqual, "a", "1"), m(api.MEqual, "b", "1")
	return [][]api.Matcher{
		{{}},
		{one, one},
		{two, one},
		{one, {}},
		{{}, one},
		{one, two, one},
		{one, two, two},
		{one, one, two},
		{m(api.MUnequal, "a", "1"), one},
		{m(api.MEqual, "a", "2"), one},
		{m(api.MLike, "a", "(")},
		{m(api.MLike, "a", many("x", 41))},
		{m(api.MEqual, "a", many("x", 25))},
		{m(api.MUnequal, "a", many("x", 40))},
		{m(0, "a", "1"), one},
		{one, m(5, "a", "1")},
		{m(-1, "a", "1"), one},
		{one, m(256+api.MUnequal, "a", "1")},
		{m(api.MEqual, "", "1"), one},
		{m(api.MEqual, "9", "1"), one},
		{m(api.MEqual, "a", "1"), m(api.MEqual, "a b", "1")},
		{one, m(api.MEqual, longName+"m", "1")},
		rising()[:6],
		append(most(), m(api.MEqual, "z", "1")),
		rising(),
		slices.Repeat([]api.Matcher{one}, 1000),
	}
}

// orders returns the matchers of ms in every order.
func orders(ms []api.Matcher) [][]api.Matcher {
	if len(ms) == 0 {
		return [][]api.Matcher{nil}
	}
	var all [][]api.Matcher
	for i := range ms {
		rest := slices.Delete(slices.Clone(ms), i, i+1)
		for _, o := range orders(rest) {
			all = append(all, append([]api.Matcher{ms[i]}, o...))
		}
	}
	return all
}

// P8.3
func TestListOfKnownLists(t *testing.T) {
	for _, ms := range lists() {
		if !List(ms) {
			t.Errorf("List(%s) = false", show(ms...))
		}
	}
	for _, ms := range notLists() {
		if List(ms) {
			t.Errorf("List(%s) = true", show(ms...))
		}
	}
}

// P8.3: of any two, one order is a list, and each of them twice is none: names alike, names and kinds alike, all three alike.
func TestListOfTwo(t *testing.T) {
	ms := rising()
	for i := range ms {
		for k := range ms {
			if two := []api.Matcher{ms[i], ms[k]}; List(two) != (i < k) {
				t.Errorf("List(%s) is not %v", show(two...), i < k)
			}
		}
	}
}

// P8.3: of the orders of five, one is a list, wherever the others go wrong.
func TestListOfEveryOrder(t *testing.T) {
	for i := range len(rising()) - 4 {
		ms := rising()[i : i+5]
		for _, o := range orders(ms) {
			if want := slices.Equal(o, ms); List(o) != want {
				t.Fatalf("List(%s) is not %v", show(o...), want)
			}
		}
	}
}

// P8.3: how many there may be.
func TestListOfLengths(t *testing.T) {
	for n := range rising() {
		if want := n <= 5; List(rising()[:n]) != want {
			t.Errorf("List of %d is not %v", n, want)
		}
	}
	long := make([]api.Matcher, 1<<16)
	for i := range long {
		long[i] = m(api.MEqual, "a", string([]byte{byte(i >> 8), byte(i)}))
	}
	if List(long) || !List(long[:5]) || List(long[:6]) {
		t.Error("lists of many")
	}
}

// spoilers make a valid matcher of name, value and pattern "1" a wrong one, in the same place of the order.
var spoilers = []func(*api.Matcher){
	func(q *api.Matcher) { q.Kind = 0 },
	func(q *api.Matcher) { q.Kind = 5 },
	func(q *api.Matcher) { q.Kind = -q.Kind },
	func(q *api.Matcher) { q.Kind += 256 },
	func(q *api.Matcher) { q.Name = "" },
	func(q *api.Matcher) { q.Name += many("x", 12) },
	func(q *api.Matcher) { q.Name += "-" },
	func(q *api.Matcher) { q.Value += many("x", 40) },
	func(q *api.Matcher) { q.Kind, q.Value = api.MLike, "1(" },
	func(q *api.Matcher) { q.Kind, q.Value = api.MUnlike, "1)" },
}

// five returns a list of just MaxMatchers matchers.
func five() []api.Matcher {
	var ms []api.Matcher
	for i := range 5 {
		ms = append(ms, m(api.MEqual, "abcde"[i:i+1], "1"))
	}
	return ms
}

// P8.3, P8.4: one wrong matcher at any place of a list.
func TestOneWrongMatcherIsEnough(t *testing.T) {
	all := list("a", "1", "b", "1", "c", "1", "d", "1", "e", "1")
	for i := range five() {
		for k, spoil := range spoilers {
			ms := five()
			spoil(&ms[i])
			if List(ms) || List(ms[i:i+1]) {
				t.Errorf("List(%s)", show(ms...))
			}
			if All(ms, all) || AnyLarge(ms) {
				t.Errorf("All, or AnyLarge, with spoiler %d at %d", k, i)
			}
			if b := Bytes(ms); len(b) != 0 {
				t.Errorf("Bytes(%s) = %q", show(ms...), b)
			}
		}
	}
}

// P8.3: a large one at any place, among valid ones and wrong ones, in lists and others.
func TestAnyLarge(t *testing.T) {
	for _, none := range [][]api.Matcher{nil, {}, five(), {{}}, {m(api.MLike, "a", many("x", 39))}, {m(api.MLike, "a", many("x", 41))}, {m(api.MEqual, "a", many("|", 24))}, {m(api.MLike, "", many("x", 40))}, {m(0, "a", many("x", 40))}, rising()[:13]} {
		if AnyLarge(none) {
			t.Errorf("AnyLarge(%s)", show(none...))
		}
	}
	for _, large := range []api.Matcher{m(api.MLike, "a", many("x", 40)), m(api.MUnlike, "a", many("|", 20))} {
		for _, others := range [][]api.Matcher{five(), make([]api.Matcher, 5), slices.Repeat(five(), 20)} {
			for i := range others {
				ms := slices.Clone(others)
				ms[i] = large
				if !AnyLarge(ms) {
					t.Errorf("a large one at %d", i)
				}
				if AnyLarge(ms[:i]) || AnyLarge(ms[i+1:]) {
					t.Error("none of the others is large")
				}
			}
		}
	}
	if !AnyLarge(most()) || !List(most()) {
		t.Error("large ones are a list")
	}
}

// P8.3: all of them, none of them, and each of them left out.
func TestAll(t *testing.T) {
	l := list("a", "1", "b", "1", "c", "1", "d", "1", "e", "1")
	for _, given := range [][]api.Label{nil, {}, l} {
		if !All(nil, given) || !All([]api.Matcher{}, given) || !All(five()[:0], given) {
			t.Error("none of none")
		}
	}
	if !All(five(), l) || All(five(), nil) {
		t.Error("all five")
	}
	for i := range five() {
		fewer := slices.Delete(slices.Clone(l), i, i+1)
		if All(five(), fewer) {
			t.Errorf("without label %d", i)
		}
		if rest := slices.Delete(five(), i, i+1); !All(rest, fewer) {
			t.Errorf("without label and matcher %d", i)
		}
		for _, q := range []api.Matcher{m(api.MUnequal, "a", "1"), m(api.MLike, "a", "2"), m(api.MUnlike, "a", many("|", 20)), m(api.MLike, "a", many("|", 20)), {}} {
			ms := five()
			ms[i] = q
			if All(ms, l) {
				t.Errorf("All(%s)", show(ms...))
			}
		}
	}
}

// P8.3: what All is given need not be a list.
func TestAllOfAnyMatchers(t *testing.T) {
	l := list("a", "1", "b", "2")
	ms := slices.Repeat([]api.Matcher{m(api.MUnequal, "b", "1"), m(api.MLike, "a", "[0-9]"), m(api.MEqual, "a", "1"), m(api.MUnlike, "c", ".+")}, 50)
	if List(ms) || !All(ms, l) {
		t.Error("no list, but all of them hold")
	}
	ms[len(ms)-1].Kind = api.MLike
	if All(ms, l) {
		t.Error("the last one does not hold")
	}
}
