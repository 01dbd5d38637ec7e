package rex

import (
	"slices"
	"strings"
	"testing"

	"sordine/api"
)

// set returns the RSet of the bytes of s.
func set(s string) api.Rex {
	x := api.Rex{Op: api.RSet}
	for i := range len(s) {
		x.Set[s[i]/64] |= 1 << (s[i] % 64)
	}
	return x
}

// but returns the RSet of all bytes that are not in s.
func but(s string) api.Rex {
	var b []byte
	for c := range 256 {
		if strings.IndexByte(s, byte(c)) < 0 {
			b = append(b, byte(c))
		}
	}
	return set(string(b))
}

func seq(kids ...api.Rex) api.Rex { return api.Rex{Op: api.RSeq, Kids: kids} }
func alt(kids ...api.Rex) api.Rex { return api.Rex{Op: api.RAlt, Kids: kids} }
func star(kid api.Rex) api.Rex    { return api.Rex{Op: api.RStar, Kids: []api.Rex{kid}} }
func plus(kid api.Rex) api.Rex    { return api.Rex{Op: api.RPlus, Kids: []api.Rex{kid}} }
func maybe(kid api.Rex) api.Rex   { return api.Rex{Op: api.RMaybe, Kids: []api.Rex{kid}} }

// same compares trees; lists without elements are alike.
func same(a, b api.Rex) bool {
	return a.Op == b.Op && a.Set == b.Set && slices.EqualFunc(a.Kids, b.Kids, same)
}

// copied returns a tree that shares nothing with x.
func copied(x api.Rex) api.Rex {
	kids := make([]api.Rex, len(x.Kids))
	for i, kid := range x.Kids {
		kids[i] = copied(kid)
	}
	x.Kids = kids
	return x
}

// zero reports whether x is zero.
func zero(x api.Rex) bool {
	return x.Op == 0 && x.Set == [4]uint64{} && len(x.Kids) == 0
}

// P5.3
func TestIsOfValidTrees(t *testing.T) {
	a := set("a")
	for i, x := range []api.Rex{
		a, set(""), but(""), {Op: api.RSet, Kids: []api.Rex{}},
		seq(), seq(a), seq(a, a), seq(seq(), seq()), {Op: api.RSeq, Kids: []api.Rex{}},
		alt(a), alt(a, a), alt(seq()), alt(alt(alt(a))),
		star(a), plus(a), maybe(a), star(star(a)), plus(seq()), maybe(plus(star(alt(a, seq())))),
		seq(slices.Repeat([]api.Rex{a}, 1000)...), alt(slices.Repeat([]api.Rex{seq()}, 1000)...),
	} {
		if !Is(x) {
			t.Errorf("%d: %v", i, x)
		}
	}
}

// wrongTrees returns trees each of which is wrong in one way at its root.
func wrongTrees() []api.Rex {
	a := set("a")
	wrong := []api.Rex{
		{}, {Op: api.RMaybe + 1}, {Op: -1}, {Op: 1 << 40}, {Op: -1 << 63}, {Op: 0, Kids: []api.Rex{a}}, {Op: 7, Kids: []api.Rex{a}}, {Op: 0, Set: a.Set}, {Op: 7, Set: a.Set},
		{Op: api.RSet, Set: a.Set, Kids: []api.Rex{a}}, {Op: api.RSet, Kids: []api.Rex{seq()}}, {Op: api.RSet, Set: a.Set, Kids: []api.Rex{a, a}},
		alt(),
	}
	for _, op := range []int{api.RStar, api.RPlus, api.RMaybe} {
		wrong = append(wrong, api.Rex{Op: op}, api.Rex{Op: op, Kids: []api.Rex{a, a}}, api.Rex{Op: op, Kids: []api.Rex{a, a, a}})
	}
	for _, op := range []int{api.RSeq, api.RAlt, api.RStar, api.RPlus, api.RMaybe} {
		for i := range 4 {
			for _, word := range []uint64{1, 1 << 63, 1<<64 - 1} {
				x := api.Rex{Op: op, Kids: []api.Rex{a}}
				x.Set[i] = word
				wrong = append(wrong, x)
			}
		}
	}
	return append(wrong, api.Rex{Op: api.RSeq, Set: a.Set})
}

// P5.3, P5.4: a wrong tree at the root, and as a kid of every kind at every place.
func TestIsOfWrongTrees(t *testing.T) {
	a := set("a")
	for i, wrong := range wrongTrees() {
		for j, x := range []api.Rex{
			wrong, seq(wrong), seq(wrong, a), seq(a, wrong), seq(a, wrong, a), alt(wrong), alt(wrong, a), alt(a, a, wrong),
			star(wrong), plus(wrong), maybe(wrong), star(seq(a, alt(a, maybe(plus(wrong))))),
		} {
			if Is(x) {
				t.Errorf("%d, %d: Is(%v)", i, j, x)
			}
			for at := range 3 {
				if l := Ends(x, "aa", at); len(l) != 0 {
					t.Errorf("%d, %d: Ends(%v, %d) = %d", i, j, x, at, l)
				}
			}
		}
	}
}

// P5.3: kids behind the length of a list are none.
func TestSpareKidsAreNotRead(t *testing.T) {
	a := set("a")
	room := []api.Rex{a, a, {Op: 9}}
	x := api.Rex{Op: api.RSet, Set: a.Set, Kids: room[:0]}
	if !Is(x) || !Is(star(a)) || !Is(api.Rex{Op: api.RPlus, Kids: room[:1]}) || Is(api.Rex{Op: api.RAlt, Kids: room[:0]}) || !Is(seq(room[:2]...)) || Is(seq(room...)) {
		t.Error("spare kids were read")
	}
	if l := Ends(seq(room[:1]...), "aa", 0); !slices.Equal(l, []int{1}) {
		t.Error(l)
	}
}

// R1, R6: as many parts inside one another as the bound allows.
func TestDeepestTrees(t *testing.T) {
	for _, op := range []int{api.RSeq, api.RAlt, api.RStar, api.RPlus, api.RMaybe} {
		x, wrong := set("a"), alt()
		for range 1<<16 - 1 {
			x = api.Rex{Op: op, Kids: []api.Rex{x}}
			wrong = api.Rex{Op: op, Kids: []api.Rex{wrong}}
		}
		want := map[int][]int{api.RSeq: {2}, api.RAlt: {2}, api.RStar: {1, 2, 3}, api.RPlus: {2, 3}, api.RMaybe: {1, 2}}[op]
		if l := Ends(x, "aaa", 1); !Is(x) || !slices.Equal(l, want) {
			t.Errorf("%d: %v %d", op, Is(x), l)
		}
		if Is(wrong) || len(Ends(wrong, "aaa", 0)) != 0 {
			t.Errorf("%d: a wrong tree far inside", op)
		}
	}
}
