package prog

import (
	"math"
	"slices"
	"strings"
	"testing"

	"sordine/api"
	"sordine/rex"
)

// set returns the RSet of the bytes of s.
func set(s string) api.Rex {
	x := api.Rex{Op: api.RSet}
	for i := range len(s) {
		x.Set[s[i]/64] |= 1 << (s[i] % 64)
	}
	return x
}

func seq(kids ...api.Rex) api.Rex { return api.Rex{Op: api.RSeq, Kids: kids} }
func alt(kids ...api.Rex) api.Rex { return api.Rex{Op: api.RAlt, Kids: kids} }
func star(kid api.Rex) api.Rex    { return api.Rex{Op: api.RStar, Kids: []api.Rex{kid}} }
func plus(kid api.Rex) api.Rex    { return api.Rex{Op: api.RPlus, Kids: []api.Rex{kid}} }
func maybe(kid api.Rex) api.Rex   { return api.Rex{Op: api.RMaybe, Kids: []api.Rex{kid}} }

// repeated returns n kids that are x.
func repeated(x api.Rex, n int) []api.Rex { return slices.Repeat([]api.Rex{x}, n) }

// nested returns x inside n parts of the kind op.
func nested(op, n int, x api.Rex) api.Rex {
	for range n {
		x = api.Rex{Op: op, Kids: []api.Rex{x}}
	}
	return x
}

var match = api.Step{Op: api.SMatch}

func one(s string) api.Step     { return api.Step{Op: api.SByte, Set: set(s).Set} }
func split(a, b int) api.Step   { return api.Step{Op: api.SSplit, A: a, B: b} }
func jump(a int) api.Step       { return api.Step{Op: api.SJump, A: a} }
func line(l ...api.Step) prog   { return l }
func (l prog) is(m prog) bool   { return slices.Equal(l, m) }
func (l prog) then(m prog) prog { return slices.Concat(l, m) }

// prog is a list of steps; between relative and absolute, its indices are distances from the step itself.
type prog []api.Step

// relative returns the steps of x, with distances instead of indices, so that lists may stand anywhere.
func relative(x api.Rex) prog {
	switch x.Op {
	case api.RSet:
		return line(api.Step{Op: api.SByte, Set: x.Set})
	case api.RSeq:
		var l prog
		for _, kid := range x.Kids {
			l = l.then(relative(kid))
		}
		return l
	case api.RAlt:
		l := relative(x.Kids[len(x.Kids)-1])
		for i := len(x.Kids) - 2; i >= 0; i-- {
			kid := relative(x.Kids[i])
			l = line(split(1, len(kid)+2)).then(kid).then(line(jump(len(l) + 1))).then(l)
		}
		return l
	}
	kid := relative(x.Kids[0])
	n := len(kid)
	switch x.Op {
	case api.RStar:
		return line(split(1, n+2)).then(kid).then(line(jump(-n - 1)))
	case api.RPlus:
		return kid.then(line(split(-n, 1)))
	}
	return line(split(1, n+1)).then(kid)
}

// absolute returns the program with the steps of l, which have distances.
func absolute(l prog) prog {
	l = l.then(line(match))
	for i := range l {
		if l[i].Op == api.SSplit || l[i].Op == api.SJump {
			l[i].A += i
		}
		if l[i].Op == api.SSplit {
			l[i].B += i
		}
	}
	return l
}

// wantProgram checks all that is said of the valid tree x, whose program is want. It tells want and not x, which may be very large.
func wantProgram(t *testing.T, x api.Rex, want prog) {
	t.Helper()
	if n := Size(x); n != len(want) {
		t.Errorf("Size is %d, want %d: %v", n, len(want), want)
	}
	l, ok := Make(x)
	if len(want) > api.MaxProg {
		if ok || len(l) != 0 {
			t.Errorf("Make returned %v, %v; %d steps are too many", l, ok, len(want))
		}
		return
	}
	if !ok || !want.is(l) {
		t.Errorf("Make returned %v, %v, want %v", l, ok, want)
	}
	if !Check(l) {
		t.Errorf("Check(%v) is false", l)
	}
}

// wantNone checks that there is no program of x.
func wantNone(t *testing.T, x api.Rex, size int) {
	t.Helper()
	if l, ok := Make(x); ok || len(l) != 0 || Size(x) != size {
		t.Errorf("Make has %d steps, %v; Size is %d, want %d", len(l), ok, Size(x), size)
	}
}

// P6.1, P6.2, and the chapter's section 'Runs': each kind of tree by itself, with kids that have steps.
func TestProgramsOfEachKind(t *testing.T) {
	a, b, c, d := set("a"), set("b"), set("c"), set("d")
	ab := seq(a, b)
	for _, q := range []struct {
		x    api.Rex
		want prog
	}{
		{a, line(one("a"), match)},
		{set(""), line(one(""), match)},
		{set("\x00?@\x7f\x80\xbf\xc0\xff"), line(one("\x00?@\x7f\x80\xbf\xc0\xff"), match)},
		{seq(a), line(one("a"), match)},
		{ab, line(one("a"), one("b"), match)},
		{seq(a, b, c), line(one("a"), one("b"), one("c"), match)},
		{alt(a), line(one("a"), match)},
		{alt(ab), line(one("a"), one("b"), match)},
		{alt(a, b), line(split(1, 3), one("a"), jump(4), one("b"), match)},
		{alt(a, b, c), line(split(1, 3), one("a"), jump(7), split(4, 6), one("b"), jump(7), one("c"), match)},
		{alt(ab, c, d, ab), line(split(1, 4), one("a"), one("b"), jump(12), split(5, 7), one("c"), jump(12), split(8, 10), one("d"), jump(12), one("a"), one("b"), match)},
		{star(a), line(split(1, 3), one("a"), jump(0), match)},
		{star(ab), line(split(1, 4), one("a"), one("b"), jump(0), match)},
		{plus(a), line(one("a"), split(0, 2), match)},
		{plus(ab), line(one("a"), one("b"), split(0, 3), match)},
		{maybe(a), line(split(1, 2), one("a"), match)},
		{maybe(ab), line(split(1, 3), one("a"), one("b"), match)},
	} {
		wantProgram(t, q.x, q.want)
	}
}

// P6.1: kids that have no steps.
func TestProgramsOfKidsWithoutSteps(t *testing.T) {
	a, no := set("a"), seq()
	for _, q := range []struct {
		x    api.Rex
		want prog
	}{
		{no, line(match)},
		{api.Rex{Op: api.RSeq, Kids: []api.Rex{}}, line(match)},
		{seq(no, no), line(match)},
		{seq(no, a, no), line(one("a"), match)},
		{alt(no), line(match)},
		{alt(no, no), line(split(1, 2), jump(2), match)},
		{alt(no, no, no), line(split(1, 2), jump(4), split(3, 4), jump(4), match)},
		{alt(a, no), line(split(1, 3), one("a"), jump(3), match)},
		{alt(no, a), line(split(1, 2), jump(3), one("a"), match)},
		{alt(alt(no), seq(no)), line(split(1, 2), jump(2), match)},
		{star(no), line(split(1, 2), jump(0), match)},
		{plus(no), line(split(0, 1), match)},
		{maybe(no), line(split(1, 1), match)},
		{seq(a, star(no)), line(one("a"), split(2, 3), jump(1), match)},
		{seq(a, plus(no)), line(one("a"), split(1, 2), match)},
		{seq(a, maybe(no)), line(one("a"), split(2, 2), match)},
		{seq(a, plus(seq(no, alt(no)))), line(one("a"), split(1, 2), match)},
		{plus(plus(no)), line(split(0, 1), split(0, 2), match)},
	} {
		wantProgram(t, q.x, q.want)
	}
}

// P6.1, P6.2: trees inside trees, which do not begin at step 0.
func TestProgramsOfPatterns(t *testing.T) {
	a, b, c := one("a"), one("b"), one("c")
	for p, want := range map[string]prog{
		"":          line(match),
		"c(a|b)*":   line(c, split(2, 7), split(3, 5), a, jump(6), b, jump(1), match),
		"c(a|b)+":   line(c, split(2, 4), a, jump(5), b, split(1, 6), match),
		"ca?b":      line(c, split(2, 3), a, b, match),
		"ca*b":      line(c, split(2, 4), a, jump(1), b, match),
		"ca+b":      line(c, a, split(1, 3), b, match),
		"(a*)*":     line(split(1, 5), split(2, 4), a, jump(1), jump(0), match),
		"(a+)+":     line(a, split(0, 2), split(0, 3), match),
		"(a?)?":     line(split(1, 3), split(2, 3), a, match),
		"(a|b)|c":   line(split(1, 6), split(2, 4), a, jump(5), b, jump(7), c, match),
		"a|(b|c)":   line(split(1, 3), a, jump(7), split(4, 6), b, jump(7), c, match),
		"a|(b|c)|a": line(split(1, 3), a, jump(10), split(4, 9), split(5, 7), b, jump(8), c, jump(10), a, match),
		"(|a)+b":    line(split(1, 2), jump(3), a, split(0, 4), b, match),
	} {
		x, ok := rex.Parse(p)
		if !ok {
			t.Fatalf("%q is no pattern", p)
		}
		wantProgram(t, x, want)
	}
}

// smallTrees returns all valid trees of at most n parts, with few sets.
func smallTrees(n int) []api.Rex {
	bySize := [][]api.Rex{nil, {set("a"), set("b"), seq()}}
	for size := 2; size <= n; size++ {
		var trees []api.Rex
		for _, x := range bySize[size-1] {
			trees = append(trees, star(x), plus(x), maybe(x), seq(x), alt(x))
		}
		for left := 1; left < size-1; left++ {
			for _, x := range bySize[left] {
				for _, y := range bySize[size-1-left] {
					trees = append(trees, seq(x, y), alt(x, y))
				}
			}
		}
		bySize = append(bySize, trees)
	}
	return slices.Concat(bySize...)
}

// P6.1, P6.2: all small trees, by themselves and as kids of greater ones.
func TestProgramsOfManyTrees(t *testing.T) {
	small := smallTrees(5)
	for i, x := range small {
		y := small[(i*7+3)%len(small)]
		z := small[(i*31+11)%len(small)]
		for _, tree := range []api.Rex{
			x, alt(x, y, z), seq(x, y, z), seq(alt(x, y), star(z)), plus(seq(maybe(x), alt(y, z, x))), star(alt(plus(x), seq(y, z))), alt(x, star(alt(y, z)), maybe(alt(z, z, x, y))),
		} {
			wantProgram(t, tree, absolute(relative(tree)))
		}
	}
}

// runs does what the steps say with the bytes of s, and reports whether it may come to an SMatch with all of them read.
func runs(l []api.Step, s string) bool {
	seen := map[[2]int]bool{}
	waiting := [][2]int{{0, 0}}
	for len(waiting) > 0 {
		at, read := waiting[0][0], waiting[0][1]
		waiting = waiting[1:]
		if seen[[2]int{at, read}] {
			continue
		}
		seen[[2]int{at, read}] = true
		switch step := l[at]; step.Op {
		case api.SByte:
			if read < len(s) && step.Set[s[read]/64]>>(s[read]%64)&1 == 1 {
				waiting = append(waiting, [2]int{at + 1, read + 1})
			}
		case api.SSplit:
			waiting = append(waiting, [2]int{step.A, read}, [2]int{step.B, read})
		case api.SJump:
			waiting = append(waiting, [2]int{step.A, read})
		case api.SMatch:
			if read == len(s) {
				return true
			}
		}
	}
	return false
}

// P6.1: a program matches what its tree matches.
func TestProgramsMeanTheirTrees(t *testing.T) {
	for _, x := range smallTrees(4) {
		l, ok := Make(x)
		if !ok {
			t.Fatalf("no program of %v", x)
		}
		for _, s := range []string{"", "a", "b", "aa", "ab", "ba", "bb", "aba", "aab", "abab", "bbba"} {
			if want := slices.Contains(rex.Ends(x, s, 0), len(s)); runs(l, s) != want {
				t.Errorf("the program %v of %v on %q: %v", l, x, s, !want)
			}
		}
	}
}

// P6.2: programs of just MaxProg steps, and of one more or one less.
func TestMostSteps(t *testing.T) {
	a, no := set("a"), seq()
	sizes := map[int]int{}
	for _, x := range []api.Rex{
		seq(repeated(a, 38)...), seq(repeated(a, 39)...), seq(repeated(a, 40)...),
		alt(repeated(a, 13)...), alt(repeated(a, 14)...), alt(seq(a, a), alt(repeated(a, 12)...)), alt(append(repeated(a, 12), seq(a, a, a, a))...), alt(append(repeated(a, 13), no)...),
		alt(repeated(no, 20)...), alt(repeated(no, 21)...), seq(a, alt(repeated(no, 20)...)), seq(a, a, alt(repeated(no, 20)...)),
		nested(api.RStar, 19, no), nested(api.RStar, 19, a), nested(api.RStar, 20, no),
		nested(api.RPlus, 37, a), nested(api.RPlus, 38, a), nested(api.RPlus, 39, a), nested(api.RPlus, 39, no), nested(api.RPlus, 40, no),
		nested(api.RMaybe, 37, a), nested(api.RMaybe, 38, a), nested(api.RMaybe, 39, a), nested(api.RMaybe, 39, no), nested(api.RMaybe, 40, no),
		seq(append(repeated(no, 1000), repeated(a, 39)...)...), seq(append(repeated(no, 1000), repeated(a, 40)...)...),
	} {
		want := absolute(relative(x))
		wantProgram(t, x, want)
		sizes[len(want)]++
	}
	for n := api.MaxProg - 1; n <= api.MaxProg+1; n++ {
		if sizes[n] < 3 {
			t.Errorf("only %d programs of %d steps", sizes[n], n)
		}
	}
}

// P6.2: patterns that are valid and too large.
func TestLargePatterns(t *testing.T) {
	for p, size := range map[string]int{
		strings.Repeat("a", 39):              40,
		strings.Repeat("a", 40):              41,
		"a" + strings.Repeat("|a", 12):       38,
		"a" + strings.Repeat("|a", 13):       41,
		strings.Repeat("|", 40):              81,
		strings.Repeat("a*", 13):             40,
		strings.Repeat("a*", 13) + "a":       41,
		strings.Repeat("a+", 19) + "a":       40,
		strings.Repeat("a?", 19) + "aa":      41,
		strings.Repeat("a*", 20):             61,
		"(((((((a*)*)*)*)*)*)*)*":            18,
		strings.Repeat("()*", 13):            27,
		strings.Repeat("[a-z]", 8):           9,
		strings.Repeat("()", 20):             1,
		"(" + strings.Repeat("|", 19) + ")":  39,
		"a(" + strings.Repeat("|", 19) + ")": 40,
		"(" + strings.Repeat("|", 20) + ")":  41,
	} {
		x, ok := rex.Parse(p)
		if !ok {
			t.Fatalf("%q is no pattern", p)
		}
		wantProgram(t, x, absolute(relative(x)))
		if n := Size(x); n != size {
			t.Errorf("Size of %q is %d, want %d", p, n, size)
		}
	}
}

// wrongTrees returns trees each of which is wrong in one way at its root.
func wrongTrees() []api.Rex {
	a := set("a")
	wrong := []api.Rex{
		{}, {Op: api.RMaybe + 1}, {Op: -1}, {Op: math.MinInt}, {Op: math.MaxInt}, {Kids: []api.Rex{a}}, {Op: 7, Kids: []api.Rex{a}}, {Set: a.Set}, {Op: 7, Set: a.Set},
		{Op: api.RSet, Set: a.Set, Kids: []api.Rex{a}}, {Op: api.RSet, Kids: []api.Rex{seq()}}, alt(), {Op: api.RAlt, Kids: []api.Rex{}}, {Op: api.RSeq, Set: a.Set},
	}
	for _, op := range []int{api.RStar, api.RPlus, api.RMaybe} {
		wrong = append(wrong, api.Rex{Op: op}, api.Rex{Op: op, Kids: repeated(a, 2)}, api.Rex{Op: op, Kids: repeated(seq(), 2)})
	}
	for _, op := range []int{api.RSeq, api.RAlt, api.RStar, api.RPlus, api.RMaybe} {
		wrong = append(wrong, api.Rex{Op: op, Set: a.Set, Kids: []api.Rex{a}}, api.Rex{Op: op, Set: [4]uint64{3: 1 << 63}, Kids: []api.Rex{a}})
	}
	return wrong
}

// P6.2: trees that are not valid, at the root and inside.
func TestProgramsOfWrongTrees(t *testing.T) {
	a := set("a")
	for _, wrong := range wrongTrees() {
		for _, x := range []api.Rex{
			wrong, seq(wrong), seq(a, wrong), seq(wrong, a), alt(wrong), alt(a, wrong), alt(wrong, a), star(wrong), plus(wrong), maybe(wrong), star(seq(a, alt(a, maybe(plus(wrong))))),
			seq(append(repeated(a, 100), wrong)...),
		} {
			wantNone(t, x, 0)
		}
	}
}

// R1, R6: many parts, beside and inside one another; large trees are counted and not written out.
func TestGreatTrees(t *testing.T) {
	const many = 1 << 17
	a, no := set("a"), seq()
	wantNone(t, seq(repeated(a, many)...), many+1)
	wantNone(t, alt(repeated(a, many)...), 3*many-1)
	wantNone(t, alt(repeated(no, many)...), 2*many-1)
	wantNone(t, seq(repeated(alt(a, a), many)...), 4*many+1)
	wantNone(t, alt(append(repeated(a, many), alt())...), 0)
	wantProgram(t, seq(repeated(seq(no, no), many)...), line(match))
	wantProgram(t, seq(append(repeated(no, many), a)...), line(one("a"), match))
	wantProgram(t, star(seq(append(repeated(no, many), a)...)), line(split(1, 3), one("a"), jump(0), match))

	const deep = 1<<16 - 1
	wantProgram(t, nested(api.RSeq, deep, a), line(one("a"), match))
	wantProgram(t, nested(api.RAlt, deep, a), line(one("a"), match))
	wantProgram(t, nested(api.RSeq, deep, no), line(match))
	wantNone(t, nested(api.RStar, deep, a), 2*deep+2)
	wantNone(t, nested(api.RPlus, deep, a), deep+2)
	wantNone(t, nested(api.RMaybe, deep, a), deep+2)
	wantNone(t, nested(api.RSeq, deep, alt()), 0)
}

// R5: kids behind the length of a list are none.
func TestSpareKidsAreNotRead(t *testing.T) {
	a := set("a")
	room := []api.Rex{a, set("b"), {Op: 9}}
	wantProgram(t, seq(room[:1]...), line(one("a"), match))
	wantProgram(t, seq(room[:0]...), line(match))
	wantProgram(t, alt(room[:2]...), line(split(1, 3), one("a"), jump(4), one("b"), match))
	wantProgram(t, api.Rex{Op: api.RPlus, Kids: room[:1]}, line(one("a"), split(0, 2), match))
	wantProgram(t, api.Rex{Op: api.RSet, Set: a.Set, Kids: room[:0]}, line(one("a"), match))
	wantNone(t, seq(room...), 0)
}

// R2: a program is new memory, its spare capacity included, and a tree stays as it is.
func TestProgramsAreNew(t *testing.T) {
	x, _ := rex.Parse("(a|b)*c+(a?|()|b)")
	want := absolute(relative(x))
	l, _ := Make(x)
	m, _ := Make(x)
	for i := range l[:cap(l)] {
		l[:cap(l)][i] = api.Step{Op: -1, A: -1, B: -1}
	}
	if !want.is(m) {
		t.Errorf("a program is now %v", m)
	}
	wantProgram(t, x, want)
	if y, _ := rex.Parse("(a|b)*c+(a?|()|b)"); !same(x, y) {
		t.Errorf("the tree is now %v", x)
	}
}

// same compares trees.
func same(a, b api.Rex) bool {
	return a.Op == b.Op && a.Set == b.Set && slices.EqualFunc(a.Kids, b.Kids, same)
}
