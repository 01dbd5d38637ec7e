package prog

import (
	"math"
	"slices"
	"testing"

	"sordine/api"
)

// P6.3: how many steps there may be.
func TestCheckOfLengths(t *testing.T) {
	if Check(nil) || Check([]api.Step{}) {
		t.Error("no steps are no program")
	}
	for n := 1; n <= 3*api.MaxProg; n++ {
		for _, step := range []api.Step{match, jump(0), split(0, 0), jump(n - 1), split(n-1, 0), split(0, n-1)} {
			l := slices.Repeat([]api.Step{step}, n)
			if Check(l) != (n <= 40) {
				t.Errorf("Check of %d steps %v is %v", n, step, n > 40)
			}
		}
		l := append(slices.Repeat([]api.Step{one("a")}, n-1), match)
		if Check(l) != (n <= 40) {
			t.Errorf("Check of %d steps, bytes and a match, is %v", n, n > 40)
		}
	}
	if Check(slices.Repeat([]api.Step{match}, 1<<20)) {
		t.Error("very many steps are no program")
	}
}

// P6.3: what may be the last step, and what may be before it.
func TestCheckOfLastSteps(t *testing.T) {
	a := one("a")
	for _, q := range []struct {
		l    prog
		want bool
	}{
		{line(a), false},
		{line(one("")), false},
		{line(a, a), false},
		{line(match, a), false},
		{line(split(0, 1), a), false},
		{line(a, match), true},
		{line(one(""), match), true},
		{line(a, a, match), true},
		{line(a, jump(0)), true},
		{line(a, split(0, 1)), true},
		{line(match), true},
		{line(jump(0)), true},
		{line(split(0, 0)), true},
		{line(match, match), true},
		{line(match, a, match), true},
		{slices.Repeat(line(a), api.MaxProg), false},
		{slices.Repeat(line(a), api.MaxProg-1).then(line(match)), true},
	} {
		if Check(q.l) != q.want {
			t.Errorf("Check(%v) is %v", q.l, !q.want)
		}
	}
}

// isValid says what the chapter says of one step, at index i of n.
func isValid(s api.Step, i, n int) bool {
	noSet, a, b := s.Set == [4]uint64{}, 0 <= s.A && s.A <= n-1, 0 <= s.B && s.B <= n-1
	switch s.Op {
	case api.SByte:
		return s.A == 0 && s.B == 0 && i != n-1
	case api.SSplit:
		return a && b && noSet
	case api.SJump:
		return a && s.B == 0 && noSet
	case api.SMatch:
		return s.A == 0 && s.B == 0 && noSet
	}
	return false
}

// P6.3: every kind of step, and numbers that are none, with indices at all edges, and sets, at each place of a program.
func TestCheckOfEachStep(t *testing.T) {
	ops := []int{math.MinInt, -4, -1, 0, api.SByte, api.SSplit, api.SJump, api.SMatch, 5, 6, 1<<32 + api.SMatch, 1<<8 + api.SByte, math.MaxInt}
	sets := [][4]uint64{{}, {1}, {0, 1 << 63}, {0, 0, 1}, {0, 0, 0, 1 << 63}, {1, 2, 3, 4}}
	for _, n := range []int{1, 2, 3, api.MaxProg - 1, api.MaxProg} {
		indices := []int{math.MinInt, -n, -1, 0, 1, n - 2, n - 1, n, n + 1, 1 << 32, 1<<32 + 1, math.MaxInt}
		for _, i := range []int{0, n / 2, n - 1} {
			l := slices.Repeat(line(match), n)
			for _, op := range ops {
				for _, a := range indices {
					for _, b := range indices {
						for _, set := range sets {
							l[i] = api.Step{Op: op, Set: set, A: a, B: b}
							if want := isValid(l[i], i, n); Check(l) != want {
								t.Fatalf("Check of %d steps with %v at %d is %v", n, l[i], i, !want)
							}
						}
					}
				}
			}
		}
	}
}

// P6.3: one by one, what is wrong in a program that is otherwise valid.
func TestCheckOfSpoiledPrograms(t *testing.T) {
	l := line(split(1, 3), one("a"), jump(0), match)
	if !Check(l) {
		t.Fatal("the program of a* is valid")
	}
	for i := range l {
		for _, spoil := range []func(s *api.Step){
			func(s *api.Step) { s.Op = 0 },
			func(s *api.Step) { s.Op = 5 },
			func(s *api.Step) { s.Op = -s.Op },
			func(s *api.Step) { s.A = -1 },
			func(s *api.Step) { s.A = 4 },
			func(s *api.Step) { s.B = -1 },
			func(s *api.Step) { s.B = 4 },
		} {
			m := slices.Clone(l)
			spoil(&m[i])
			if Check(m) {
				t.Errorf("Check(%v) is true", m)
			}
		}
		for bit := range 256 {
			m := slices.Clone(l)
			m[i].Set[bit/64] ^= 1 << (bit % 64)
			if Check(m) != (i == 1) {
				t.Errorf("Check(%v) is %v", m, i != 1)
			}
		}
	}
}

// R2, R5: steps behind the length of a list are none, and a list stays as it is.
func TestSpareStepsAreNotRead(t *testing.T) {
	room := line(one("a"), match, one("b"), api.Step{Op: 9})
	before := slices.Clone(room)
	if Check(room[:0]) || Check(room[:1]) || !Check(room[:2]) || Check(room[:3]) || Check(room) {
		t.Error("spare steps were read")
	}
	if Check(line(jump(1), match)[:1]) || Check(line(split(0, 1), match)[:1]) {
		t.Error("a spare step has no index")
	}
	if !room.is(before) {
		t.Errorf("the steps are now %v", room)
	}
}
