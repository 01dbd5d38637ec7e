package scan

import (
	"slices"
	"strings"
	"testing"

	"sordine/api"
	"sordine/prog"
	"sordine/rex"
)

// words returns the texts of at most n of these bytes.
func words(of string, n int) []string {
	all := []string{""}
	for last := all; n > 0; n-- {
		var longer []string
		for _, s := range last {
			for i := range len(of) {
				longer = append(longer, s+of[i:i+1])
			}
		}
		all = append(all, longer...)
		last = longer
	}
	return all
}

// program returns the tree and the program of p, if it has one.
func program(p string) (api.Rex, []api.Step, bool) {
	x, ok := rex.Parse(p)
	if !ok {
		return x, nil, false
	}
	l, ok := prog.Make(x)
	return x, l, ok
}

// P7.2: a match is one at the end of the text, and of nothing but the whole of it.
func TestMatch(t *testing.T) {
	a, b := one("a"), one("b")
	for _, q := range []struct {
		l          []api.Step
		takes, not string
	}{
		{line(match), " ", "a b aa"},
		{line(a, match), "a", " b aa ab ba"},
		{line(a, b, match), "ab", " a b aab abb ba aba"},
		{line(one(""), match), "", " a b"},
		{line(a, match, b, match), "a", " ab b"},
		{line(split(1, 3), a, match, b, match), "a b", " ab ba aa"},
		{line(split(1, 2), match, a, match), " a", "aa b"},
		{line(split(1, 2), match, a, jump(0)), " a aa aaa", "b ab ba"},
		{line(a, split(0, 2), match), "a aa aaa", " b ab ba aab"},
		{line(a, jump(0)), "", " a aa"},
		{line(jump(2), match, a, b, jump(1)), "ab", " a abab"},
		{line(split(1, 3), a, jump(0), match), " a aa aaa", "b ab ba aba"},
		{line(split(2, 1), match, a, split(1, 4), b, match), " a ab", "b aa abb aab"},
	} {
		for _, s := range strings.Split(q.takes, " ") {
			if q.takes != "" && !Match(q.l, s) {
				t.Errorf("%v does not match %q", q.l, s)
			}
		}
		for _, s := range strings.Split(q.not, " ") {
			if Match(q.l, s) {
				t.Errorf("%v matches %q", q.l, s)
			}
		}
	}
}

// P7.2: Match is Start and then Next with each byte.
func TestMatchIsStartAndNext(t *testing.T) {
	for _, p := range []string{"", "a*", "(a|b)*c", "(a|ab)(c|bcd)", "[^a]+|a?b", "((a*)*|b)+", ".\\.[a-c]"} {
		_, l, ok := program(p)
		if !ok {
			t.Fatalf("%q has no program", p)
		}
		for _, s := range words("abc.", 5) {
			now := Start(l)
			for i := range len(s) {
				now = Next(l, now, s[i])
			}
			want := false
			for i, step := range l {
				want = want || step.Op == api.SMatch && now>>i&1 == 1
			}
			if Match(l, s) != want {
				t.Errorf("Match of %q and %q is %v", p, s, !want)
			}
		}
	}
}

// wantEnds checks that the program l of x matches those of texts at whose end a match of x may end.
func wantEnds(t *testing.T, p string, x api.Rex, l []api.Step, texts []string) {
	t.Helper()
	for _, s := range texts {
		if want := slices.Contains(rex.Ends(x, s, 0), len(s)); Match(l, s) != want {
			t.Errorf("%q on %q: Match is %v", p, s, !want)
		}
	}
}

// P7.3: patterns with stars in stars, with kids that match nothing, and others.
func TestPatterns(t *testing.T) {
	texts := words("abc", 5)
	for _, p := range []string{
		"", "a", "abc", "a*", "a+", "a?", "a|b", "a|b|c", "ab|ac", "a*b*c*", "a+b+", "a?b?c?", ".", ".*", "..", ".*b.*", "[ab]*c", "[^ab]*", "[a-c]+", "[^a-c]",
		"(a*)*", "(a+)+", "(a?)?", "(a*)+", "(a+)*", "(a?)*", "(a*)?", "((a*)*)*", "((a*b)*c)*", "(a*b*)*", "(a*|b+)*c", "(((((((a*)*)*)*)*)*)*)*",
		"()", "()*", "()+", "()?", "(|)", "(|)*", "(|a)*", "(a|)*", "(|)+b", "(()*)*", "(()+)+a", "()*a", "a()*", "(()|a)+b", "(a()b)*", "|", "||", "|a", "a|", "(|a)(b|)c?",
		"(a|ab)(c|bcd)", "(a|ab|abc)*", "((a|b)?c)+", "(a?b)*", "a|b*|c+", "(ab|c)*", "(a|b)*abc", "(a|b)*a(a|b)(a|b)", "(aa|aaa)*", "(ab|ba)*", "(a|b)(a|b)(a|b)(a|b)(a|b)",
	} {
		x, l, ok := program(p)
		if !ok {
			t.Fatalf("%q has no program", p)
		}
		wantEnds(t, p, x, l, texts)
	}
}

// P7.3: all short patterns.
func TestAllShortPatterns(t *testing.T) {
	texts := words("abc", 3)
	accepted := 0
	for _, p := range words("ab|*+?().", 5) {
		x, l, ok := program(p)
		if !ok {
			continue
		}
		accepted++
		wantEnds(t, p, x, l, texts)
	}
	if accepted < 1000 {
		t.Errorf("only %d patterns were accepted", accepted)
	}
}

// P7.3: bytes of all kinds, 0 and 255 among them.
func TestPatternsOfBytes(t *testing.T) {
	var texts []string
	for c := range 256 {
		s := string([]byte{byte(c)})
		texts = append(texts, s, s+s, s+"\xff", "\x00"+s)
	}
	texts = append(texts, "", "\u00e9", "\u20ac", "\xff\xfe\xfd")
	for _, p := range []string{".", "..", ".*", "\x00", "\xff", "\x00*\xff", "[\x00-\xff]", "[^\x00]", "[^\xff]+", "[\x80-\xfe].", "[^\x01-\xfe]*", "\u00e9", "[\u00e9]+", "\\.|\\*", "[\\-\\^\\]]", "[^\\-]."} {
		x, l, ok := program(p)
		if !ok {
			t.Fatalf("%q has no program", p)
		}
		wantEnds(t, p, x, l, texts)
	}
}

// P7.3: patterns whose programs have just MaxProg steps.
func TestPatternsOfMostSteps(t *testing.T) {
	texts := words("abc", 4)
	for n := range api.MaxProg + 5 {
		text := strings.Repeat("a", n)
		texts = append(texts, text, text+"b")
	}
	for _, p := range []string{
		strings.Repeat("a", 39),
		strings.Repeat("a*", 13),
		strings.Repeat("a+", 19) + "a",
		strings.Repeat("a?", 18) + "aaa",
		"abc" + strings.Repeat("|a", 12),
		"a(" + strings.Repeat("|", 19) + ")",
	} {
		x, l, ok := program(p)
		if !ok || len(l) != api.MaxProg {
			t.Fatalf("the program of %q has %d steps", p, len(l))
		}
		wantEnds(t, p, x, l, texts)
	}
}

// R1: a text may be long, and a pattern one that would be slow if its ways were tried one by one.
func TestLongTexts(t *testing.T) {
	const long = 1 << 20
	text := strings.Repeat("a", long)
	for p, want := range map[string]bool{"a*": true, "(a*)*": true, "((a|a)*)*b": false, "(a|aa)+": true, "(a*)*(a*)*(a*)*b?": true, "(aa)*": true, "(aaa)*": long%3 == 0, "a": false} {
		_, l, ok := program(p)
		if !ok {
			t.Fatalf("%q has no program", p)
		}
		if Match(l, text) != want {
			t.Errorf("%q on %d bytes: %v", p, long, !want)
		}
	}
}

// R2, R5: a program stays as it is, and steps behind its length are none of it.
func TestProgramsStay(t *testing.T) {
	room := line(split(1, 2), one("a"), match, one("b"), match, api.Step{Op: 9})
	before := slices.Clone(room)
	if Start(room[:3]) != word(1, 2) || Next(room[:3], word(1, 3), 'a') != word(2) || Next(room[:3], word(1, 3), 'b') != 0 || !Match(room[:3], "a") || Match(room[:3], "b") {
		t.Error("the first three steps are a program by themselves")
	}
	if Start(room[:2]) != 0 || Next(room[:2], 3, 'a') != 0 || Match(room[:2], "a") {
		t.Error("a spare step was read")
	}
	if Start(room[:0]) != 0 || Start(room) != 0 {
		t.Error("no steps, and a wrong one, are no program")
	}
	if !slices.Equal(room, before) {
		t.Errorf("the steps are now %v", room)
	}
}
