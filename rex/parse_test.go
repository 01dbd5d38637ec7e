package rex

import (
	"regexp"
	"slices"
	"strings"
	"testing"

	"sordine/api"
)

const specials = `|*+?()[].\`

// wantTree checks that s is a pattern with that tree.
func wantTree(t *testing.T, s string, want api.Rex) {
	t.Helper()
	if x, ok := Parse(s); !ok || !same(x, want) || !Is(x) {
		t.Errorf("Parse(%q) = %v, %v, want %v", s, x, ok, want)
	}
}

// wantNone checks that s is no pattern.
func wantNone(t *testing.T, s string) {
	t.Helper()
	if x, ok := Parse(s); ok || !zero(x) {
		t.Errorf("Parse(%q) = %v, %v, want none", s, x, ok)
	}
}

// P5.2, and the chapter's section 'Runs'.
func TestParseOfKnownPatterns(t *testing.T) {
	a, b, c, none := set("a"), set("b"), set("c"), seq()
	for s, want := range map[string]api.Rex{
		"":             none,
		"a":            a,
		"a*|b":         alt(star(a), b),
		"abc":          seq(a, b, c),
		"a|b|c":        alt(a, b, c),
		"ab|c":         alt(seq(a, b), c),
		"a|bc":         alt(a, seq(b, c)),
		"|":            alt(none, none),
		"||":           alt(none, none, none),
		"a|":           alt(a, none),
		"|a":           alt(none, a),
		"a||b":         alt(a, none, b),
		"()":           none,
		"()()":         seq(none, none),
		"(())":         none,
		"(|)":          alt(none, none),
		"()|()":        alt(none, none),
		"(|a)b":        seq(alt(none, a), b),
		"()*":          star(none),
		"()+":          plus(none),
		"()?":          maybe(none),
		"(a)":          a,
		"((a))":        a,
		"(ab)":         seq(a, b),
		"(ab)c":        seq(seq(a, b), c),
		"a(bc)":        seq(a, seq(b, c)),
		"(a|b)|c":      alt(alt(a, b), c),
		"a|(b|c)":      alt(a, alt(b, c)),
		"(a|b)":        alt(a, b),
		"(a*)":         star(a),
		"(a*)*":        star(star(a)),
		"(a+)?":        maybe(plus(a)),
		"((a?)+)*":     star(plus(maybe(a))),
		"(a|b)+":       plus(alt(a, b)),
		"(ab)?c":       seq(maybe(seq(a, b)), c),
		"ab*":          seq(a, star(b)),
		"a+b?":         seq(plus(a), maybe(b)),
		"a*b*|c+":      alt(seq(star(a), star(b)), plus(c)),
		"[ab]*":        star(set("ab")),
		".+":           plus(but("")),
		`\.?`:          maybe(set(".")),
		"aa":           seq(a, a),
		"a|a":          alt(a, a),
		"^a$":          seq(set("^"), a, set("$")),
		"a{2}":         seq(a, set("{"), set("2"), set("}")),
		"a-c":          seq(a, set("-"), c),
		"\u00e9":       seq(set("\xc3"), set("\xa9")),
		"\u00e9*":      seq(set("\xc3"), star(set("\xa9"))),
		"[\u00e9]":     set("\xc3\xa9"),
		"(a)(b)|((c))": alt(seq(a, b), c),
	} {
		wantTree(t, s, want)
	}
}

// P5.1: every byte by itself, quoted, and beside others.
func TestEveryByteOutsideBrackets(t *testing.T) {
	a := set("a")
	for i := range 256 {
		c := string([]byte{byte(i)})
		plain := !strings.Contains(specials, c)
		switch {
		case plain:
			wantTree(t, c, set(c))
			wantTree(t, c+c, seq(set(c), set(c)))
			wantTree(t, "("+c+"|a)", alt(set(c), a))
			wantTree(t, c+"*a", seq(star(set(c)), a))
		case c == ".":
			wantTree(t, c, but(""))
		case c == "|":
			wantTree(t, c, alt(seq(), seq()))
		default:
			wantNone(t, c)
		}
		quoted := `\` + c
		if strings.Contains(specials+"^-", c) {
			wantTree(t, quoted, set(c))
			wantTree(t, "a"+quoted+"*", seq(a, star(set(c))))
			wantTree(t, "("+quoted+")+", plus(set(c)))
		} else {
			wantNone(t, quoted)
			wantNone(t, "a"+quoted+"*")
			wantNone(t, "("+quoted+")")
		}
	}
}

// P5.1: every byte as the only item, and as the first and the last of several.
func TestEveryByteInsideBrackets(t *testing.T) {
	for i := range 256 {
		c := string([]byte{byte(i)})
		plain, quoted := !strings.Contains(`\][^-`, c), strings.Contains(specials+"^-", c)
		for _, form := range []struct {
			text string
			ok   bool
		}{{c, plain}, {`\` + c, quoted}} {
			if form.ok {
				wantTree(t, "["+form.text+"]", set(c))
				wantTree(t, "[^"+form.text+"]", but(c))
				wantTree(t, "["+form.text+"~]", set(c+"~"))
				wantTree(t, "[~"+form.text+"]", set(c+"~"))
				wantTree(t, "[^~"+form.text+"]*", star(but(c+"~")))
				wantTree(t, "["+form.text+form.text+"]", set(c))
				continue
			}
			wantNone(t, "["+form.text+"]")
			wantNone(t, "[^"+form.text+"]")
			if c != "]" {
				wantNone(t, "[~"+form.text+"]")
			}
			if c != "^" {
				wantNone(t, "["+form.text+"~]")
			}
		}
	}
	wantTree(t, "[^~]", but("~"))
	// What follows a bracket that is closed is outside of it.
	wantNone(t, "[~]]")
	wantNone(t, "[]~]")
}

// inBrackets returns c as an item may show it, quoted wherever that may be.
func inBrackets(c int) string {
	s := string([]byte{byte(c)})
	if strings.Contains(specials+"^-", s) {
		return `\` + s
	}
	return s
}

// P5.1: items from every byte to every byte, those that fall included.
func TestEverySpanOfBytes(t *testing.T) {
	for low := range 256 {
		for high := range 256 {
			item := inBrackets(low) + "-" + inBrackets(high)
			if low > high {
				wantNone(t, "["+item+"]")
				wantNone(t, "[^~"+item+"]")
				continue
			}
			var b []byte
			for c := low; c <= high; c++ {
				b = append(b, byte(c))
			}
			wantTree(t, "["+item+"]", set(string(b)))
			wantTree(t, "[^"+item+"~]", but(string(b)+"~"))
		}
	}
	wantTree(t, "[\x00-\xff]", but(""))
	wantTree(t, "[^\x00-\xff]", set(""))
	wantTree(t, "[(-+]", set("()*+"))
	wantTree(t, "[a-cb-dx]", set("abcdx"))
	wantTree(t, "[a-a]", set("a"))
	wantTree(t, `[a\-c]`, set("a-c"))
	wantTree(t, `[\--\.]`, set("-."))
}

// P5.1: brackets that are not closed, are empty, or have wrong items.
func TestWrongBrackets(t *testing.T) {
	for _, s := range []string{
		"[", "[^", "[a", "[^a", "[a-", "[a-b", `[\`, `[a\`, `[\]`, `[a-\`, `[a-\]`, "([a)", "([)", "[a|b", "[a[b]",
		"[]", "[^]", "[]*", "a[]b", "([])",
		"[-]", "[-a]", "[a-]", "[^-a]", "[a-b-c]", "[a--]", "[--a]", "[a-b-]", "[a-^]", "[a-]]", "[a-[]", "[^^]", "[a^]", "[^^a]", "[[]", "[]]", "[[a]]", "[a-^b]",
		"[b-a]", "[ac-bd]", "[a-z9-0]", "[\xff-\x00]", "[^b-a]", `[a-\^]`,
		`[\a]`, `[\n]`, `[a-\z]`, `[\0-9]`, `[\d]`,
	} {
		wantNone(t, s)
	}
}

// P5.1: what repeats nothing or repeats twice, groups that are not closed or not opened, and a backslash at the end.
func TestWrongPatterns(t *testing.T) {
	for _, s := range []string{
		"*", "+", "?", "*a", "|*", "a|+", "(*)", "(|?a)", "(+a)", "a(?b)", "(?:a)",
		"a**", "a*+", "a*?", "a++", "a+*", "a+?", "a??", "a?*", "(a)**", "[a]*+", ".??", `\.*?`,
		"(", ")", "(a", "a)", "((a)", "(a))", ")(", "a|b)|(c", "(a|b", "a|b)", "(]", "(a]", "()())",
		"]", "a]", "a]b", "]a", `\`, `a\`, `(a\`, `(a\)`, `\\\`, `a|\`,
	} {
		wantNone(t, s)
	}
}

// P5.1: patterns of every length up to the longest one, and longer ones.
func TestLengths(t *testing.T) {
	a := set("a")
	for n := 2; n <= 40; n++ {
		wantTree(t, strings.Repeat("a", n), seq(slices.Repeat([]api.Rex{a}, n)...))
		wantTree(t, strings.Repeat("|", n), alt(slices.Repeat([]api.Rex{seq()}, n+1)...))
	}
	wantTree(t, strings.Repeat(`\*`, 20), seq(slices.Repeat([]api.Rex{set("*")}, 20)...))
	wantTree(t, strings.Repeat("()", 20), seq(slices.Repeat([]api.Rex{seq()}, 20)...))
	wantTree(t, "["+strings.Repeat("a", 38)+"]", a)
	wantTree(t, strings.Repeat("\u00e9", 20), seq(slices.Repeat([]api.Rex{set("\xc3"), set("\xa9")}, 20)...))
	for _, n := range []int{41, 42, 80, 255, 256, 257, 1 << 20} {
		wantNone(t, strings.Repeat("a", n))
		wantNone(t, strings.Repeat("|", n))
		wantNone(t, strings.Repeat("(", n))
		wantNone(t, strings.Repeat("[", n))
	}
	wantNone(t, strings.Repeat(`\*`, 20)+"a")
	wantNone(t, strings.Repeat("()", 20)+"*")
	wantNone(t, "["+strings.Repeat("a", 39)+"]")
}

// P5.1: groups inside one another, and groups that follow one another, which are not counted.
func TestDepths(t *testing.T) {
	a := set("a")
	for n := range 20 {
		open, shut := strings.Repeat("(", n), strings.Repeat(")", n)
		if n > 8 {
			wantNone(t, open+"a"+shut)
			wantNone(t, open+shut)
			wantNone(t, "a|b"+open+"a"+shut)
			continue
		}
		wantTree(t, open+"a"+shut, a)
		wantTree(t, open+shut, seq())
		wantTree(t, open+"a"+shut+open+"a"+shut, seq(a, a))
		wantTree(t, open+"a"+shut+"|"+open+"a"+shut, alt(a, a))
		if n > 0 {
			wantNone(t, open+"a"+shut[1:])
			wantNone(t, open[1:]+"a"+shut)
		}
	}
	wantTree(t, "(((((((()a)))))))", seq(seq(), a))
	wantNone(t, "((((((((()))))))))")
	wantNone(t, "((((((((a()))))))))")
	wantTree(t, "(((((((([(()]))))))))", set("()"))
	wantTree(t, `((((((((\(\())))))))`, seq(set("("), set("(")))
	wantTree(t, "((((((((a))))))))(((a)))", seq(a, a))
	wantTree(t, "(((((((a)(a)(a)))))))", seq(a, a, a))
}

// R2: no two lists of a tree share memory, and no two trees do.
func TestTreesAreNew(t *testing.T) {
	const s = "(a|b)*(a|b)|(c+d?)()|[^a-c].(()|)"
	x, _ := Parse(s)
	want := copied(x)
	y, _ := Parse(s)
	spoil(y)
	if !same(x, want) {
		t.Errorf("Parse(%q) is now %v", s, x)
	}
	for i := range x.Kids {
		rest := copied(x)
		room := x.Kids[i].Kids
		for j := range room[:cap(room)] {
			room[:cap(room)][j] = api.Rex{Op: -1}
		}
		for k := range x.Kids {
			if k != i && !same(x.Kids[k], rest.Kids[k]) {
				t.Errorf("way %d changed with way %d", k, i)
			}
		}
	}
	if z, ok := Parse(s); !ok || !same(z, want) {
		t.Errorf("Parse(%q) = %v, %v", s, z, ok)
	}
}

// spoil overwrites all lists of x, their spare capacity included.
func spoil(x api.Rex) {
	for i := range x.Kids {
		spoil(x.Kids[i])
	}
	room := x.Kids[:cap(x.Kids)]
	for i := range room {
		room[i] = api.Rex{Op: -1, Set: [4]uint64{1, 2, 3, 4}}
	}
}

// written returns a pattern of the tree x, with groups around all that might need one.
func written(x api.Rex) string {
	switch x.Op {
	case api.RSeq:
		s := ""
		for _, kid := range x.Kids {
			s += inGroup(kid)
		}
		return s
	case api.RAlt:
		var ways []string
		for _, kid := range x.Kids {
			ways = append(ways, inGroup(kid))
		}
		return strings.Join(ways, "|")
	case api.RStar, api.RPlus, api.RMaybe:
		return inGroup(x.Kids[0]) + string("*+?"[x.Op-api.RStar])
	}
	for _, s := range []string{"a", "b"} {
		if x.Set == set(s).Set {
			return s
		}
	}
	return "."
}

func inGroup(x api.Rex) string {
	if x.Op == api.RSet {
		return written(x)
	}
	return "(" + written(x) + ")"
}

// P5.2: all small trees that patterns have, written and parsed again.
func TestParseOfWrittenTrees(t *testing.T) {
	n := 0
	for _, x := range smallTrees(5) {
		if isOfAPattern(x) {
			wantTree(t, written(x), x)
			wantTree(t, "("+written(x)+")", x)
			n++
		}
	}
	if n < 500 {
		t.Errorf("only %d trees", n)
	}
}

// isOfAPattern reports whether no RAlt or RSeq inside x has a single kid.
func isOfAPattern(x api.Rex) bool {
	if (x.Op == api.RAlt || x.Op == api.RSeq) && len(x.Kids) == 1 {
		return false
	}
	for _, kid := range x.Kids {
		if !isOfAPattern(kid) {
			return false
		}
	}
	return true
}

const (
	quotedByte = `\\[|*+?()\[\].\\^-]`
	itemByte   = `(?:[^\\\]\[^-]|` + quotedByte + `)`
)

var (
	oneItem  = regexp.MustCompile(`(` + itemByte + `)(?:-(` + itemByte + `))?`)
	oneToken = regexp.MustCompile(`^(?:\[\^?((?:` + itemByte + `(?:-` + itemByte + `)?)+)\]|` + quotedByte + `|[^\[\]\\])`)
	oneGroup = regexp.MustCompile(`\((?:x[*+?]?|\|)*\)`)
	noGroup  = regexp.MustCompile(`^(?:x[*+?]?|\|)*$`)
)

// isPattern decides without the parser whether s is a pattern: what stands for one byte becomes an x, and then groups do, from the inside out.
func isPattern(s string) bool {
	short := ""
	for rest := s; rest != ""; {
		token := oneToken.FindStringSubmatch(rest)
		if token == nil {
			return false
		}
		for _, item := range oneItem.FindAllStringSubmatch(token[1], -1) {
			if low, high := item[1], item[2]; high != "" && low[len(low)-1] > high[len(high)-1] {
				return false
			}
		}
		rest = rest[len(token[0]):]
		if strings.Contains("|*+?()", token[0]) {
			short += token[0]
		} else {
			short += "x"
		}
	}
	for range api.MaxDepth {
		short = oneGroup.ReplaceAllString(short, "x")
	}
	return noGroup.MatchString(short)
}

// P5.1: all strings of a few bytes.
func TestEveryShortString(t *testing.T) {
	const alphabet = `ab|*()[]^-\`
	all := []string{""}
	for n := 0; len(all[n]) < 5; n++ {
		for i := range len(alphabet) {
			all = append(all, all[n]+alphabet[i:i+1])
		}
	}
	patterns := 0
	for _, s := range all {
		x, ok := Parse(s)
		if ok != isPattern(s) || ok != Is(x) || !ok && !zero(x) {
			t.Errorf("Parse(%q) = %v, %v", s, x, ok)
		}
		if ok {
			patterns++
		}
	}
	if patterns < 1000 || len(all) < 100*1000 {
		t.Errorf("%d of %d strings are patterns", patterns, len(all))
	}
}

// P5.1: patterns with one byte changed, put in or taken out.
func TestNearlyPatterns(t *testing.T) {
	for _, s := range []string{
		"((((((((a))))))))", "(a|b)*(c+d?)|[^a-c\\]x]", `\[a\]|[\[-\]]+|(.|)?`, "(((((((())))))))|((()))", "[a-z][0-9]*([x]|())", `a\|b|\(c\)*`,
	} {
		if !isPattern(s) {
			t.Fatalf("%q is no pattern", s)
		}
		for i := range len(s) + 1 {
			for c := range 128 {
				other := string(rune(c))
				for _, q := range []string{s[:i] + other + s[i:], s[:i] + other + s[min(i+1, len(s)):], s[:i] + s[min(i+1, len(s)):]} {
					if x, ok := Parse(q); ok != isPattern(q) || ok != Is(x) {
						t.Errorf("Parse(%q) = %v, %v", q, x, ok)
					}
				}
			}
		}
	}
}
