package rex

import (
	"math"
	"regexp"
	"slices"
	"strings"
	"testing"

	"sordine/api"
)

// smallTrees returns all valid trees of at most n parts, with few sets.
func smallTrees(n int) []api.Rex {
	bySize := [][]api.Rex{nil, {set("a"), set("b"), but(""), seq()}}
	for size := 2; size <= n; size++ {
		var trees []api.Rex
		for _, x := range bySize[size-1] {
			trees = append(trees, star(x), plus(x), maybe(x), seq(x), alt(x))
		}
		for left := 1; left < size-1; left++ {
			for _, x := range bySize[left] {
				for _, y := range bySize[size-1-left] {
					trees = append(trees, seq(x, y), alt(x, y))
				}
			}
		}
		bySize = append(bySize, trees)
	}
	return slices.Concat(bySize...)
}

// words returns all strings of a, b and c with at most n bytes.
func words(n int) []string {
	l := []string{""}
	for i := 0; len(l[i]) < n; i++ {
		l = append(l, l[i]+"a", l[i]+"b", l[i]+"c")
	}
	return l
}

// endsOf does what the chapter says, part by part and from each index by itself; bit i of a set is index i.
func endsOf(x api.Rex, s string, at int) uint64 {
	here := uint64(1) << at
	switch x.Op {
	case api.RSet:
		if at < len(s) && x.Set[s[at]/64]&(1<<(s[at]%64)) != 0 {
			return here << 1
		}
		return 0
	case api.RSeq:
		ends := here
		for _, kid := range x.Kids {
			ends = endsFrom(kid, s, ends)
		}
		return ends
	case api.RAlt:
		ends := uint64(0)
		for _, kid := range x.Kids {
			ends |= endsOf(kid, s, at)
		}
		return ends
	case api.RMaybe:
		return here | endsOf(x.Kids[0], s, at)
	case api.RPlus:
		return endsFrom(star(x.Kids[0]), s, endsOf(x.Kids[0], s, at))
	}
	ends := here
	for fresh := here; fresh != 0; {
		fresh = endsFrom(x.Kids[0], s, fresh) &^ ends
		ends |= fresh
	}
	return ends
}

// endsFrom returns where matches that begin at one of starts may end.
func endsFrom(x api.Rex, s string, starts uint64) uint64 {
	ends := uint64(0)
	for at := range len(s) + 1 {
		if starts>>at&1 == 1 {
			ends |= endsOf(x, s, at)
		}
	}
	return ends
}

// ascending returns the indices of a set in order.
func ascending(set uint64) []int {
	var l []int
	for i := range 64 {
		if set>>i&1 == 1 {
			l = append(l, i)
		}
	}
	return l
}

// P5.4: all small trees, on all short strings, from every index.
func TestEndsOfSmallTrees(t *testing.T) {
	for _, x := range smallTrees(4) {
		for _, s := range words(4) {
			for at := range len(s) + 1 {
				want := ascending(endsOf(x, s, at))
				if l := Ends(x, s, at); !slices.Equal(l, want) {
					t.Fatalf("Ends(%v, %q, %d) = %d, want %d", x, s, at, l, want)
				}
			}
		}
	}
}

// P5.4: trees with more parts, on fewer strings.
func TestEndsOfGreaterTrees(t *testing.T) {
	texts := []string{"", "a", "ab", "abab", "aabbc", "bcabca"}
	small := smallTrees(3)
	for i, x := range small {
		y := small[(i*7+3)%len(small)]
		z := small[(i*31+11)%len(small)]
		for _, tree := range []api.Rex{
			seq(x, y, z), alt(x, y, z), star(seq(x, alt(y, z))), plus(seq(maybe(x), y, star(z))), seq(star(alt(x, y)), plus(z)),
			star(star(seq(star(x), maybe(y), plus(z)))), alt(seq(x, y), seq(y, z), seq(z, x)), plus(seq(plus(x), plus(alt(y, seq())), z)),
		} {
			for _, s := range texts {
				for at := range len(s) + 1 {
					want := ascending(endsOf(tree, s, at))
					if l := Ends(tree, s, at); !slices.Equal(l, want) {
						t.Fatalf("Ends(%v, %q, %d) = %d, want %d", tree, s, at, l, want)
					}
				}
			}
		}
	}
}

// P5.2, P5.4: patterns mean what others take them to mean.
func TestEndsOfPatterns(t *testing.T) {
	for _, p := range []string{
		"", "a", "ab|a", "(a|b)+", "a*b*c*", "(ab|ba|c)*", "(a|ab)(c|bc|)", "[^a]+", "[a-b]*c?", "(a?b?)+c", "((a*)*b)*", "(a+|b+)+c*", "a||b", "()a()", ".b.", "(.a|b.)*", "(a(b(c)?)?)?", "((ab?)+c?)*", `a[\^\-b]*`,
	} {
		x, ok := Parse(p)
		if !ok {
			t.Fatalf("%q is no pattern", p)
		}
		other := regexp.MustCompile("^(?:" + p + ")$")
		for _, s := range words(5) {
			for at := range len(s) + 1 {
				var want []int
				for end := at; end <= len(s); end++ {
					if other.MatchString(s[at:end]) {
						want = append(want, end)
					}
				}
				if l := Ends(x, s, at); !slices.Equal(l, want) {
					t.Fatalf("Ends of %q (%q, %d) = %d, want %d", p, s, at, l, want)
				}
			}
		}
	}
}

// P5.4, and the chapter's section 'Runs'.
func TestKnownEnds(t *testing.T) {
	for _, q := range []struct {
		p, s string
		at   int
		want []int
	}{
		{"a*", "aab", 0, []int{0, 1, 2}},
		{"a*", "aab", 1, []int{1, 2}},
		{"a*", "aab", 3, []int{3}},
		{"a+", "aab", 3, nil},
		{"a", "aab", 3, nil},
		{"", "aab", 3, []int{3}},
		{"", "", 0, []int{0}},
		{"a", "", 0, nil},
		{".", "", 0, nil},
		{".*", "", 0, []int{0}},
		{"b", "aab", 0, nil},
		{"b", "aab", 2, []int{3}},
		{"(aa|aaa)+", "aaaaaaa", 0, []int{2, 3, 4, 5, 6, 7}},
		{"a|ab|abc|ab", "abcd", 0, []int{1, 2, 3}},
		{".*", "\x00\xff\n\x80", 0, []int{0, 1, 2, 3, 4}},
		{"\xc3", "\u00e9", 0, []int{1}},
		{".", "\u00e9", 1, []int{2}},
		{"()*", "a", 0, []int{0}},
		{"()+", "a", 1, []int{1}},
		{"()?", "a", 0, []int{0}},
		{"(a*)+", "aab", 0, []int{0, 1, 2}},
		{"(a?)+", "aab", 2, []int{2}},
		{"(|a)+b", "aab", 0, []int{3}},
		{"(a*b*)*c", "abbac", 0, []int{5}},
	} {
		x, ok := Parse(q.p)
		if l := Ends(x, q.s, q.at); !ok || !slices.Equal(l, q.want) {
			t.Errorf("Ends of %q (%q, %d) = %d, want %d", q.p, q.s, q.at, l, q.want)
		}
	}
}

// P5.4
func TestIndicesOutsideOfAString(t *testing.T) {
	for _, p := range []string{"", "a", "a*", "a?", "(|a)", "()+", ".*"} {
		x, _ := Parse(p)
		for _, s := range []string{"", "a", "aaa"} {
			for _, at := range []int{-1, -2, -len(s), math.MinInt, math.MinInt + 1, len(s) + 1, len(s) + 2, 64, 1 << 32, math.MaxInt, math.MaxInt - 1} {
				if at == 0 {
					continue
				}
				if l := Ends(x, s, at); len(l) != 0 {
					t.Errorf("Ends of %q (%q, %d) = %d", p, s, at, l)
				}
			}
		}
	}
}

// P5.4: every byte against sets of one byte, of all but one, of all and of none.
func TestEndsOfEveryByte(t *testing.T) {
	for i := range 256 {
		c := string([]byte{byte(i)})
		for j := range 256 {
			s := "-" + string([]byte{byte(j)}) + "-"
			if l := Ends(set(c), s, 1); (i == j) != slices.Equal(l, []int{2}) || i != j && len(l) != 0 {
				t.Fatalf("byte %d on byte %d: %d", i, j, l)
			}
			if l := Ends(but(c), s, 1); (i != j) != slices.Equal(l, []int{2}) || i == j && len(l) != 0 {
				t.Fatalf("all but byte %d on byte %d: %d", i, j, l)
			}
		}
		if l := Ends(but(""), c, 0); !slices.Equal(l, []int{1}) {
			t.Fatalf("any byte on %d: %d", i, l)
		}
		if len(Ends(set(""), c, 0)) != 0 || len(Ends(alt(set("")), c, 0)) != 0 || !slices.Equal(Ends(star(set("")), c, 0), []int{0}) {
			t.Fatalf("no byte on %d", i)
		}
	}
}

// upTo returns the numbers from a to b.
func upTo(a, b int) []int {
	var l []int
	for i := a; i <= b; i++ {
		l = append(l, i)
	}
	return l
}

// R1: repetitions inside repetitions, on many bytes; going through all ways one by one would not end.
func TestManyRepetitionsEnd(t *testing.T) {
	s := strings.Repeat("a", 500)
	for _, wrap := range []func(api.Rex) api.Rex{
		func(x api.Rex) api.Rex { return star(star(x)) },
		func(x api.Rex) api.Rex { return star(plus(maybe(x))) },
		func(x api.Rex) api.Rex { return star(seq(maybe(set("b")), x, maybe(set("a")))) },
		func(x api.Rex) api.Rex { return star(alt(x, set("a"), seq(x.Kids...))) },
		func(x api.Rex) api.Rex { return seq(star(x), star(set("a"))) },
	} {
		x := star(set("a"))
		for range 8 {
			x = wrap(x)
		}
		if l := Ends(x, s, 3); !slices.Equal(l, upTo(3, 500)) {
			t.Errorf("%d ends", len(l))
		}
	}
	x := star(set("a"))
	for range 300 {
		x = star(seq(maybe(set("b")), x, maybe(set("c"))))
	}
	if l := Ends(x, s+"d", 0); !slices.Equal(l, upTo(0, 500)) {
		t.Errorf("%d ends", len(l))
	}
}

// R1, R6: long strings, and trees with many kids.
func TestGreatInputs(t *testing.T) {
	s := strings.Repeat("ab", 1<<18)
	for p, want := range map[string][]int{"(a|b)*": upTo(0, len(s)), "(a*b*)+c": nil, "a": {1}, "c?": {0}, "(.*)*c*": upTo(0, len(s))} {
		x, ok := Parse(p)
		if l := Ends(x, s, 0); !ok || !slices.Equal(l, want) {
			t.Errorf("%q: %d ends", p, len(l))
		}
	}
	// A match that ends early is not followed to the end of the string.
	x, _ := Parse("ab")
	for at := range len(s) {
		if l := Ends(x, s, at); at%2 == 0 && !slices.Equal(l, []int{at + 2}) || at%2 == 1 && len(l) != 0 {
			t.Fatalf("from %d: %d", at, l)
		}
	}
	many := slices.Repeat([]api.Rex{maybe(set("a"))}, 1<<12)
	if l := Ends(seq(many...), strings.Repeat("a", 1<<12+1), 0); !slices.Equal(l, upTo(0, 1<<12)) {
		t.Errorf("%d ends of a long sequence", len(l))
	}
	if l := Ends(plus(alt(many...)), strings.Repeat("a", 100), 0); !slices.Equal(l, upTo(0, 100)) {
		t.Errorf("%d ends of many ways", len(l))
	}
}

// R2, R4: a tree stays as it is, its spare capacity included, and answers are new memory that hangs on nothing earlier.
func TestEndsSharesNothing(t *testing.T) {
	room := []api.Rex{set("a"), star(set("b")), {Op: -5}}
	x := plus(seq(room[:2]...))
	want := copied(x)
	first := Ends(x, "abbab", 0)
	second := Ends(x, "abbab", 0)
	for i := range second[:cap(second)] {
		second[:cap(second)][i] = -1
	}
	Is(x)
	Ends(x, "zzz", 1)
	if !slices.Equal(first, []int{1, 2, 3, 4, 5}) || !slices.Equal(Ends(x, "abbab", 0), first) {
		t.Errorf("the ends are %d", first)
	}
	if !same(x, want) || !same(room[2], api.Rex{Op: -5}) {
		t.Errorf("the tree is %v", x)
	}
}
