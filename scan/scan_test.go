package scan

import (
	"math"
	"slices"
	"testing"

	"sordine/api"
	"sordine/prog"
)

var match = api.Step{Op: api.SMatch}

// one returns the SByte of the bytes of s.
func one(s string) api.Step {
	step := api.Step{Op: api.SByte}
	for i := range len(s) {
		step.Set[s[i]/64] |= 1 << (s[i] % 64)
	}
	return step
}

func split(a, b int) api.Step            { return api.Step{Op: api.SSplit, A: a, B: b} }
func jump(a int) api.Step                { return api.Step{Op: api.SJump, A: a} }
func line(l ...api.Step) []api.Step      { return l }
func times(s api.Step, n int) []api.Step { return slices.Repeat(line(s), n) }

// word returns the set of the steps of l.
func word(l ...int) uint64 {
	var w uint64
	for _, i := range l {
		w |= 1 << i
	}
	return w
}

// walk marks in ends the SBytes and SMatches that one comes to from step i, as the chapter's section 'Terms' says it.
func walk(l []api.Step, i int, been, ends map[int]bool) {
	if been[i] {
		return
	}
	been[i] = true
	switch s := l[i]; s.Op {
	case api.SByte, api.SMatch:
		ends[i] = true
	case api.SSplit:
		walk(l, s.A, been, ends)
		walk(l, s.B, been, ends)
	case api.SJump:
		walk(l, s.A, been, ends)
	}
}

// wordOf returns the set of the steps that are marked.
func wordOf(ends map[int]bool) uint64 {
	var w uint64
	for i := range ends {
		w |= word(i)
	}
	return w
}

// modelStart is what Start returns for a valid program.
func modelStart(l []api.Step) uint64 {
	ends := map[int]bool{}
	walk(l, 0, map[int]bool{}, ends)
	return wordOf(ends)
}

// modelNext is what Next returns for a valid program.
func modelNext(l []api.Step, now uint64, c byte) uint64 {
	ends := map[int]bool{}
	for i, s := range l {
		if now>>i&1 == 1 && s.Op == api.SByte && s.Set[c/64]&(1<<(c%64)) != 0 {
			walk(l, i+1, map[int]bool{}, ends)
		}
	}
	return wordOf(ends)
}

// modelMatch is what Match returns for a valid program.
func modelMatch(l []api.Step, s string) bool {
	now := modelStart(l)
	for i := range len(s) {
		now = modelNext(l, now, s[i])
	}
	for i, step := range l {
		if now>>i&1 == 1 && step.Op == api.SMatch {
			return true
		}
	}
	return false
}

// P7.1 and the chapter's section 'Runs'.
func TestRuns(t *testing.T) {
	l := line(split(1, 3), one("a"), jump(0), match)
	if w := Start(l); w != word(1, 3) {
		t.Errorf("Start is %b", w)
	}
	if w := Next(l, word(1, 3), 'a'); w != word(1, 3) {
		t.Errorf("Next with a is %b", w)
	}
	if w := Next(l, word(1, 3), 'b'); w != 0 {
		t.Errorf("Next with b is %b", w)
	}
}

// P7.1: what is reached from step 0.
func TestStart(t *testing.T) {
	a := one("a")
	for _, q := range []struct {
		l    []api.Step
		want uint64
	}{
		{line(match), word(0)},
		{line(match, match), word(0)},
		{line(a, match), word(0)},
		{line(one(""), match), word(0)},
		{line(jump(1), match), word(1)},
		{line(jump(2), match, a, match), word(2)},
		{line(jump(3), match, jump(1), jump(2)), word(1)},
		{line(split(1, 2), a, match), word(1, 2)},
		{line(split(2, 1), a, match), word(1, 2)},
		{line(split(2, 2), a, match), word(2)},
		{line(split(0, 1), match), word(1)},
		{line(split(1, 0), match), word(1)},
		{line(split(1, 2), split(3, 4), split(5, 6), a, match, a, match), word(3, 4, 5, 6)},
		{line(split(3, 1), jump(2), split(0, 4), a, match), word(3, 4)},
		{line(split(1, 2), a, jump(1), match), word(1)},
	} {
		if w := Start(q.l); w != q.want {
			t.Errorf("Start(%v) is %b, want %b", q.l, w, q.want)
		}
	}
}

// P7.1: splits and jumps that lead back to themselves.
func TestCirclesReachNothing(t *testing.T) {
	a := one("a")
	all := uint64(math.MaxUint64)
	for _, l := range [][]api.Step{
		line(jump(0)),
		line(split(0, 0)),
		line(jump(0), match),
		line(split(0, 0), a, match),
		line(split(0, 1), jump(0)),
		line(jump(1), jump(0), match),
		line(split(1, 2), split(2, 0), split(0, 1), match),
		line(jump(2), match, split(0, 2), a, match),
		times(jump(0), api.MaxProg),
		times(split(0, api.MaxProg-1), api.MaxProg),
	} {
		if w := Start(l); w != 0 {
			t.Errorf("Start(%v) is %b", l, w)
		}
		if Match(l, "") || Match(l, "a") {
			t.Errorf("%v matches", l)
		}
	}
	for _, l := range [][]api.Step{
		line(a, jump(1)),
		line(a, split(1, 1), match),
		line(a, jump(2), split(1, 2), match),
	} {
		if w := Next(l, all, 'a'); w != 0 {
			t.Errorf("Next(%v) is %b", l, w)
		}
		if Start(l) != word(0) || Match(l, "a") {
			t.Errorf("%v matches, or does not start", l)
		}
	}
	// What leads out of a circle is taken, from wherever in it.
	l := line(a, jump(2), split(3, 4), jump(1), a, match)
	if w := Next(l, word(0), 'a'); w != word(4) {
		t.Errorf("Next is %b", w)
	}
}

// P7.1: the bits of now that are no SBytes, or lie behind the program, have no effect.
func TestOtherBits(t *testing.T) {
	l := line(split(1, 4), one("ab"), one("b"), jump(0), match)
	for bit := range 64 {
		for _, c := range []byte{'a', 'b', 'c', 0, 255} {
			want := uint64(0)
			switch {
			case bit == 1 && (c == 'a' || c == 'b'):
				want = word(2)
			case bit == 2 && c == 'b':
				want = word(1, 4)
			}
			if w := Next(l, word(bit), c); w != want {
				t.Errorf("Next of bit %d with %q is %b, want %b", bit, c, w, want)
			}
			others := word(1, 2) ^ math.MaxUint64
			if w := Next(l, word(bit)|others, c); w != want {
				t.Errorf("Next of bit %d and all others with %q is %b, want %b", bit, c, w, want)
			}
		}
	}
	if w := Next(l, math.MaxUint64, 'b'); w != word(1, 2, 4) {
		t.Errorf("Next of all bits is %b", w)
	}
	if w := Next(l, 0, 'b'); w != 0 {
		t.Errorf("Next of nothing is %b", w)
	}
}

// P7.1: the bytes, 0 and 255 among them, by each bit of a Set.
func TestBytes(t *testing.T) {
	for c := range 256 {
		with := line(one(string([]byte{byte(c)})), match)
		without := line(with[0], match)
		for i := range without[0].Set {
			without[0].Set[i] ^= math.MaxUint64
		}
		for d := range 256 {
			if got, want := Next(with, 1, byte(d)) == word(1), c == d; got != want {
				t.Fatalf("the Set of %d takes %d: %v", c, d, got)
			}
			if got, want := Next(without, 1, byte(d)) == word(1), c != d; got != want {
				t.Fatalf("the Set without %d takes %d: %v", c, d, got)
			}
			s := string([]byte{byte(d)})
			if Match(with, s) != (c == d) || Match(without, s) != (c != d) {
				t.Fatalf("the Sets with and without %d: Match of %d", c, d)
			}
		}
		if Next(line(one(""), match), 1, byte(c)) != 0 {
			t.Fatalf("an empty Set takes %d", c)
		}
	}
}

// steps returns the steps that a valid program of n steps may consist of, with few Sets.
func steps(n int) []api.Step {
	l := line(match, one("a"), one("ab"))
	for a := range n {
		l = append(l, jump(a))
		for b := range n {
			l = append(l, split(a, b))
		}
	}
	return l
}

// programs calls see with all lists of n of these steps; see keeps none.
func programs(n int, see func(l []api.Step)) {
	l := make([]api.Step, n)
	var fill func(i int)
	fill = func(i int) {
		if i == n {
			see(l)
			return
		}
		for _, l[i] = range steps(n) {
			fill(i + 1)
		}
	}
	fill(0)
}

// P7.1, P7.2: all small programs, with all sets of their steps.
func TestAllSmallPrograms(t *testing.T) {
	for n := 1; n <= 3; n++ {
		programs(n, func(l []api.Step) {
			if l[n-1].Op == api.SByte {
				wantNothing(t, l)
				return
			}
			wantModel(t, l)
		})
	}
}

// wantModel compares the functions with their models, for a valid program of few steps.
func wantModel(t *testing.T, l []api.Step) {
	t.Helper()
	if got, want := Start(l), modelStart(l); got != want {
		t.Fatalf("Start(%v) is %b, want %b", l, got, want)
	}
	for now := range uint64(1) << (len(l) + 1) {
		for _, c := range []byte("abc") {
			if got, want := Next(l, now, c), modelNext(l, now, c); got != want {
				t.Fatalf("Next(%v, %b, %q) is %b, want %b", l, now, c, got, want)
			}
		}
	}
	for _, s := range []string{"", "a", "b", "c", "aa", "ab", "ba", "bb", "ac", "ca", "aab", "bab"} {
		if got, want := Match(l, s), modelMatch(l, s); got != want {
			t.Fatalf("Match(%v, %q) is %v", l, s, got)
		}
	}
}

// wantNothing checks that l, which is no program, has no sets and no matches.
func wantNothing(t *testing.T, l []api.Step) {
	t.Helper()
	if prog.Check(l) {
		t.Fatalf("%v is a program", l)
	}
	if w := Start(l); w != 0 {
		t.Errorf("Start of %d steps, which are no program, is %b", len(l), w)
	}
	for _, c := range []byte{0, 'a', 'b', 255} {
		for _, now := range []uint64{0, 1, 2, 3, math.MaxUint64} {
			if w := Next(l, now, c); w != 0 {
				t.Errorf("Next of %d steps, which are no program, is %b", len(l), w)
			}
		}
	}
	for _, s := range []string{"", "a", "b", "ab", "\x00", "\xff"} {
		if Match(l, s) {
			t.Errorf("%d steps, which are no program, match %q", len(l), s)
		}
	}
}

// P7.1, P7.2: lists that are no program.
func TestNoPrograms(t *testing.T) {
	a := one("a\x00\xff")
	for _, l := range [][]api.Step{
		nil,
		{},
		line(a),
		line(match, a),
		line(a, a),
		line(jump(1)),
		line(jump(-1), match),
		line(match, jump(2)),
		line(split(0, 2), match),
		line(split(2, 0), match),
		line(split(-1, 1), match),
		line(split(1, -1), match),
		line(a, match, jump(math.MaxInt)),
		line(a, match, jump(math.MinInt)),
		line(a, match, jump(64)),
		line(a, match, split(1, 1<<32)),
		line(a, match, api.Step{}),
		line(api.Step{}, match),
		line(a, match, api.Step{Op: 5}),
		line(a, match, api.Step{Op: -1}),
		line(match, api.Step{Op: api.SMatch, A: 1}),
		line(match, api.Step{Op: api.SMatch, B: 1}),
		line(api.Step{Op: api.SMatch, Set: a.Set}),
		line(api.Step{Op: api.SJump, A: 1, Set: a.Set}, match),
		line(api.Step{Op: api.SJump, A: 1, B: 1}, match),
		line(api.Step{Op: api.SSplit, A: 1, B: 1, Set: a.Set}, match),
		line(api.Step{Op: api.SByte, Set: a.Set, A: 1}, match),
		line(api.Step{Op: api.SByte, Set: a.Set, B: 1}, match),
		times(match, api.MaxProg+1),
		append(times(a, api.MaxProg), match),
		times(match, 64),
		times(match, 65),
		times(jump(0), 1<<16),
		append(line(split(1, 70)), times(match, 70)...),
	} {
		wantNothing(t, l)
	}
}

// P7.1, P7.2: programs of just MaxProg steps, whose last steps have the greatest bits.
func TestMostSteps(t *testing.T) {
	const last = api.MaxProg - 1
	l := append(times(one("a"), last), match)
	if Start(l) != word(0) || Next(l, word(last-1), 'a') != word(last) || Next(l, math.MaxUint64, 'a') != 1<<api.MaxProg-2 {
		t.Error("bytes and a match")
	}
	text := string(slices.Repeat([]byte("a"), last+1))
	for n := range len(text) + 1 {
		if Match(l, text[:n]) != (n == last) {
			t.Errorf("39 bytes and a match: %d bytes", n)
		}
	}

	l = make([]api.Step, api.MaxProg)
	for i := range last {
		l[i] = jump(i + 1)
	}
	l[last] = match
	if Start(l) != word(last) || !Match(l, "") || Match(l, "a") {
		t.Error("jumps one behind the other")
	}
	l[0] = jump(last)
	for i := 2; i <= last; i++ {
		l[i] = jump(i - 1)
	}
	l[1] = match
	if Start(l) != word(1) || !Match(l, "") || Match(l, "a") {
		t.Error("jumps one ahead of the other")
	}

	// Splits all of whose ways lead on: 2^38 walks, if steps were taken twice.
	for i := range last {
		l[i] = split(i+1, min(i+2, last))
	}
	l[last] = match
	if Start(l) != word(last) || !Match(l, "") || Match(l, "a") {
		t.Error("splits one behind the other")
	}
}

// P7.1, P7.2: many programs of all lengths, against the models.
func TestManyPrograms(t *testing.T) {
	seed := uint64(1)
	below := func(n int) int {
		seed = seed*6364136223846793005 + 1442695040888963407
		return int(seed >> 33 % uint64(n))
	}
	kinds := []string{"a", "ab", "b", "abc", "\x00\xff", ""}
	for range 20000 {
		n := 1 + below(api.MaxProg)
		l := make([]api.Step, n)
		for i := range l {
			switch k := below(8); {
			case k < 4 && i < n-1:
				l[i] = one(kinds[below(len(kinds))])
			case k < 6:
				l[i] = split(below(n), below(n))
			case k < 7:
				l[i] = jump(below(n))
			default:
				l[i] = match
			}
		}
		now := uint64(below(1<<31))<<33 | uint64(below(1<<31))<<10 | uint64(below(1<<10))
		text := make([]byte, below(12))
		for i := range text {
			text[i] = "aaabbc\x00\xff"[below(8)]
		}
		for _, c := range []byte("abc\x00\xff") {
			if got, want := Next(l, now, c), modelNext(l, now, c); got != want {
				t.Fatalf("Next(%v, %b, %q) is %b, want %b", l, now, c, got, want)
			}
		}
		if Start(l) != modelStart(l) || Match(l, string(text)) != modelMatch(l, string(text)) {
			t.Fatalf("%v on %q: Start is %b, Match %v", l, text, Start(l), Match(l, string(text)))
		}
	}
}
