package match

import (
	"fmt"
	"math"
	"slices"
	"strings"
	"testing"

	"sordine/api"
	"sordine/prog"
	"sordine/rex"
)

const longName = "abcdefghijkl"

// m returns a matcher.
func m(kind int, name, value string) api.Matcher {
	return api.Matcher{Kind: kind, Name: name, Value: value}
}

// list returns the labels with the names and values of pairs, one behind the other.
func list(pairs ...string) []api.Label {
	var l []api.Label
	for i := 0; i < len(pairs); i += 2 {
		l = append(l, api.Label{Name: pairs[i], Value: pairs[i+1]})
	}
	return l
}

// show returns matchers as a test tells them, long values cut off.
func show(ms ...api.Matcher) string {
	var each []string
	for _, q := range ms[:min(len(ms), 20)] {
		each = append(each, fmt.Sprintf("{%d %.40q %.60q}", q.Kind, q.Name, q.Value))
	}
	return fmt.Sprintf("%d matchers %s", len(ms), strings.Join(each, " "))
}

// many returns n times s.
func many(s string, n int) string { return strings.Repeat(s, n) }

var (
	equals   = []int{api.MEqual, api.MUnequal}
	likes    = []int{api.MLike, api.MUnlike}
	kinds    = slices.Concat(equals, likes)
	noKinds  = []int{math.MinInt, -256 + api.MLike, -api.MUnlike, -api.MLike, -api.MUnequal, -api.MEqual, 0, 5, 6, 8, 128 + api.MEqual, 256 + api.MEqual, 256 + api.MUnlike, 1<<32 + api.MEqual, 1<<32 + api.MLike, math.MaxInt}
	goodName = []string{"a", "Z", "_", "a9", "_0", longName, many("_", 12)}
	badName  = []string{"", "9", "9a", "a-", "-", " a", "a ", "a\x00", "\x00", "\u00e9", longName + "m", many("a", 300)}
)

// values says of texts whether they may be the value of an MEqual, whether they are patterns, and whether these are too large.
var values = []struct {
	s                      string
	equal, pattern, tooBig bool
}{
	{"", true, true, false},
	{"x", true, true, false},
	{"x*", true, true, false},
	{"x|", true, true, false},
	{"(a|b)+[^c-e]?\\.", true, true, false},
	{"\x00\xff\xc3", true, true, false},
	{"(", true, false, false},
	{")", true, false, false},
	{"*", true, false, false},
	{"a**", true, false, false},
	{"[]", true, false, false},
	{"[b-a]", true, false, false},
	{"\\", true, false, false},
	{"\\a", true, false, false},
	{many("(", 8) + many(")", 8), true, true, false},
	{many("(", 9) + many(")", 9), true, false, false},
	{many("x", 23), true, true, false},
	{many("x", 24), true, true, false},
	{many("x", 25), false, true, false},
	{many("*", 24), true, false, false},
	{many("*", 25), false, false, false},
	{many("x", 39), false, true, false},
	{many("x", 40), false, true, true},
	{many("x", 41), false, false, false},
	{many("|", 19), true, true, false},
	{many("|", 19) + "x", true, true, false},
	{many("|", 20), true, true, true},
	{many("|", 24), true, true, true},
	{many("|", 25), false, true, true},
	{many("|", 40), false, true, true},
	{many("|", 41), false, false, false},
	{many("x*", 13), false, true, false},
	{many("x*", 13) + "x", false, true, true},
	{many("x", 39) + "(", false, false, false},
	{many("x", 24) + "\x00", false, true, false},
	{many("\u00e9", 12), true, true, false},
	{many("\u00e9", 12) + "x", false, true, false},
	{many("\u00e9", 20), false, true, true},
	{many("x", 1<<20), false, false, false},
}

// wantOne checks what Is and Large say of q.
func wantOne(t *testing.T, q api.Matcher, is, large bool) {
	t.Helper()
	if Is(q) != is {
		t.Errorf("Is(%s) = %v", show(q), !is)
	}
	if Large(q) != large {
		t.Errorf("Large(%s) = %v", show(q), !large)
	}
}

// P8.1: each kind with each value, at its edges too; the value of one kind may be none of another.
func TestEachKindWithEachValue(t *testing.T) {
	for _, v := range values {
		for _, name := range goodName {
			for _, kind := range equals {
				wantOne(t, m(kind, name, v.s), v.equal, false)
			}
			for _, kind := range likes {
				wantOne(t, m(kind, name, v.s), v.pattern, v.tooBig)
			}
		}
	}
}

// P8.1: what is none of the four kinds has no valid value, and is not large.
func TestNoKind(t *testing.T) {
	for _, v := range values {
		for _, kind := range noKinds {
			wantOne(t, m(kind, "a", v.s), false, false)
		}
	}
	wantOne(t, api.Matcher{}, false, false)
}

// P8.1: a name that is none of a label.
func TestBadNames(t *testing.T) {
	for _, v := range values {
		for _, name := range badName {
			for _, kind := range append(kinds, noKinds...) {
				wantOne(t, m(kind, name, v.s), false, false)
			}
		}
	}
}

// P8.1: the table of values agrees with the layers that decide it.
func TestLargeIsWhatHasNoProgram(t *testing.T) {
	for _, v := range values {
		x, ok := rex.Parse(v.s)
		if ok != v.pattern {
			t.Errorf("%.60q is a pattern: %v", v.s, ok)
		}
		if big := ok && prog.Size(x) > api.MaxProg; big != v.tooBig {
			t.Errorf("%.60q is too large: %v", v.s, big)
		}
	}
}

// P8.2, and the chapter's section 'Runs'.
func TestHoldsOfKnownLabels(t *testing.T) {
	l := list("a", "xy", "b", "(", "c", "\x00\xff")
	for _, q := range []struct {
		m    api.Matcher
		want bool
	}{
		{m(api.MUnequal, "a", ""), true},
		{m(api.MUnequal, "z", ""), false},
		{m(api.MLike, "a", "x|"), false},
		{m(api.MLike, "z", "x|"), true},

		{m(api.MEqual, "a", "xy"), true},
		{m(api.MEqual, "a", "x"), false},
		{m(api.MEqual, "a", "xyz"), false},
		{m(api.MEqual, "a", "y"), false},
		{m(api.MEqual, "a", "XY"), false},
		{m(api.MEqual, "a", ".."), false},
		{m(api.MEqual, "b", "xy"), false},
		{m(api.MEqual, "b", "("), true},
		{m(api.MEqual, "c", "\x00\xff"), true},
		{m(api.MEqual, "c", "\x00"), false},
		{m(api.MEqual, "A", "xy"), false},
		{m(api.MUnequal, "a", "xy"), false},
		{m(api.MUnequal, "a", "x"), true},
		{m(api.MUnequal, "a", ".."), true},
		{m(api.MUnequal, "b", "xy"), true},

		{m(api.MLike, "a", "xy"), true},
		{m(api.MLike, "a", "x."), true},
		{m(api.MLike, "a", "[xy]+"), true},
		{m(api.MLike, "a", "(z|x)y?"), true},
		{m(api.MLike, "a", "x"), false},
		{m(api.MLike, "a", "y"), false},
		{m(api.MLike, "a", "xyz"), false},
		{m(api.MLike, "a", ".*z.*"), false},
		{m(api.MLike, "b", "\\("), true},
		{m(api.MLike, "b", "[^(]"), false},
		{m(api.MLike, "c", "..|x"), true},
		{m(api.MUnlike, "a", "x."), false},
		{m(api.MUnlike, "a", "x"), true},
		{m(api.MUnlike, "a", "y"), true},
		{m(api.MUnlike, "b", "\\("), false},
		{m(api.MUnlike, "b", "[^(]"), true},
	} {
		if Holds(q.m, l) != q.want {
			t.Errorf("Holds(%s, %q) = %v", show(q.m), l, !q.want)
		}
	}
}

// P8.2: a label that is not there has the empty value, as one that is there and empty has.
func TestHoldsOfNoLabel(t *testing.T) {
	for _, l := range [][]api.Label{nil, {}, list("b", "x"), list("A", "x", "aa", "x"), list("a", ""), list("a", "", "a", "x"), list("a", "x")[:0]} {
		for _, q := range []struct {
			value       string
			equal, like bool
		}{
			{"", true, true},
			{"x", false, false},
			{"x|", false, true},
			{"|x", false, true},
			{"x*", false, true},
			{"x?", false, true},
			{"x+", false, false},
			{".", false, false},
			{"()", false, true},
			{"\x00", false, false},
		} {
			for i, want := range []bool{q.equal, !q.equal, q.like, !q.like} {
				if o := m(kinds[i], "a", q.value); Holds(o, l) != want {
					t.Errorf("Holds(%s, %q) = %v", show(o), l, !want)
				}
			}
		}
	}
}

// P8.2: the first label of a name counts, in lists that are no label sets too.
func TestHoldsOfTheFirstLabel(t *testing.T) {
	l := list("b", "1", "a", "2", "b", "3", "", "4", "a", "")
	for _, q := range []struct {
		name, value string
	}{
		{"a", "2"}, {"b", "1"}, {"c", ""},
	} {
		for i, want := range []bool{true, false, true, false} {
			if o := m(kinds[i], q.name, q.value); Holds(o, l) != want {
				t.Errorf("Holds(%s, %q) = %v", show(o), l, !want)
			}
			if o := m(kinds[i], q.name, "3"); Holds(o, l) == want {
				t.Errorf("Holds(%s, %q) = %v", show(o), l, want)
			}
		}
	}
}

// P8.2: of a matcher and its opposite one holds, unless they are not valid or too large: then neither does.
func TestHoldsOfOpposites(t *testing.T) {
	texts := []string{"", "x", "xx", "(", "\x00\xff\xc3", many("x", 24), many("x", 25), many("x", 39), many("x", 40), many("x", 41), many("|", 20), many("|", 25), many("|", 40)}
	for _, q := range values {
		for _, v := range texts {
			l := list("a", v)
			if v == "" {
				l = nil
			}
			same := v == q.s
			wantTwo(t, l, q.s, equals, q.equal && same, q.equal && !same)
			x, ok := rex.Parse(q.s)
			ok = ok && !q.tooBig
			match := slices.Contains(rex.Ends(x, v, 0), len(v))
			wantTwo(t, l, q.s, likes, ok && match, ok && !match)
		}
	}
}

// wantTwo checks whether two opposite kinds of matchers of label a hold.
func wantTwo(t *testing.T, l []api.Label, value string, two []int, first, second bool) {
	t.Helper()
	if q := m(two[0], "a", value); Holds(q, l) != first {
		t.Errorf("Holds(%s, %.60q) = %v", show(q), l, !first)
	}
	if q := m(two[1], "a", value); Holds(q, l) != second {
		t.Errorf("Holds(%s, %.60q) = %v", show(q), l, !second)
	}
}

// P8.2: what is not valid does not hold, whatever the labels are, such that have its name and value too.
func TestHoldsOfWrongMatchers(t *testing.T) {
	for _, v := range []string{"", "x", "("} {
		for _, name := range append(goodName, badName...) {
			for _, l := range [][]api.Label{nil, list("b", "x"), list(name, v), list(name, v+"x")} {
				for _, kind := range noKinds {
					if Holds(m(kind, name, v), l) {
						t.Errorf("kind %d holds", kind)
					}
				}
			}
		}
		for _, name := range badName {
			for _, l := range [][]api.Label{nil, list("b", "x"), list(name, v), list(name, v+"x")} {
				for _, kind := range kinds {
					if Holds(m(kind, name, v), l) {
						t.Errorf("name %.60q holds", name)
					}
				}
			}
		}
	}
}

// P8.2: patterns of just MaxProg steps are not too large, and read each byte.
func TestHoldsOfMostSteps(t *testing.T) {
	p := many("x", 38) + "."
	for v, want := range map[string]bool{many("x", 39): true, many("x", 38) + "\xff": true, many("x", 38): false, many("x", 40): false, "y" + many("x", 38): false} {
		wantTwo(t, list("a", v), p, likes, want, !want)
	}
	p = many("|", 19) + "x"
	for v, want := range map[string]bool{"": true, "x": true, "|": false, "xx": false} {
		wantTwo(t, list("a", v), p, likes, want, !want)
	}
}

// R1: a value may be long, and a pattern one that would be slow if its ways were tried one by one.
func TestHoldsOfLongValues(t *testing.T) {
	long := many("a", 1<<20)
	for p, want := range map[string]bool{"a*": true, "((a|a)*)*b": false, "(a*)*(a*)*b?": true, "a": false} {
		wantTwo(t, list("a", long), p, likes, want, !want)
	}
	wantTwo(t, list("a", long), "a", equals, false, true)
	wantTwo(t, list("a", long), long, equals, false, false)
	wantTwo(t, list("a", long), long, likes, false, false)
}
