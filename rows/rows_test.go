package rows

import (
	"math"
	"slices"
	"testing"
)

// edges returns the numbers that most tests take their lists from, ascending.
func edges() []int {
	return []int{math.MinInt, -1, 0, 1, math.MaxInt}
}

// lists returns every list of at most most numbers of edges: in any order, and with any of them several times.
func lists(most int) [][]int {
	all := [][]int{nil, {}}
	last := [][]int{nil}
	for range most {
		var next [][]int
		for _, l := range last {
			for _, n := range edges() {
				next = append(next, append(slices.Clone(l), n))
			}
		}
		all = append(all, next...)
		last = next
	}
	return all
}

// in is what the tests hold to be a number of a list.
func in(l []int, n int) bool {
	for _, m := range l {
		if m == n {
			return true
		}
	}
	return false
}

// those returns the numbers of universe that are wanted, in its order.
func those(universe []int, wanted func(n int) bool) []int {
	var l []int
	for _, n := range universe {
		if wanted(n) {
			l = append(l, n)
		}
	}
	return l
}

// same fails the test unless got is want; args are what the call was given.
func same(t *testing.T, what string, got, want []int, args ...any) {
	t.Helper()
	if slices.Equal(got, want) {
		return
	}
	if len(got)+len(want) > 100 {
		t.Fatalf("%s: a list of %d numbers is not the one of %d", what, len(got), len(want))
	}
	t.Fatalf("%s of %v is %v, not %v", what, args, got, want)
}

// P9.1
func TestMakeOfEveryShortList(t *testing.T) {
	for _, l := range lists(5) {
		want := those(edges(), func(n int) bool { return in(l, n) })
		same(t, "Make", Make(l), want, l)
	}
}

// P9.1
func TestMakeOfGivenLists(t *testing.T) {
	for _, q := range []struct{ l, want []int }{
		{nil, nil},
		{[]int{}, nil},
		{[]int{7}, []int{7}},
		{[]int{7, 7, 7}, []int{7}},
		{[]int{3, 1, 3, -5}, []int{-5, 1, 3}},
		{[]int{1, 2, 3}, []int{1, 2, 3}},
		{[]int{3, 2, 1}, []int{1, 2, 3}},
		{[]int{2, 10, 1}, []int{1, 2, 10}},
		{[]int{-1, -10, -2}, []int{-10, -2, -1}},
		{[]int{math.MaxInt, math.MaxInt - 1, math.MinInt, math.MinInt + 1}, []int{math.MinInt, math.MinInt + 1, math.MaxInt - 1, math.MaxInt}},
		{[]int{math.MaxInt32 + 1, math.MaxInt32, math.MinInt32, math.MinInt32 - 1}, []int{math.MinInt32 - 1, math.MinInt32, math.MaxInt32, math.MaxInt32 + 1}},
	} {
		same(t, "Make", Make(q.l), q.want, q.l)
	}
}

// P9.1
func TestIsOfEveryShortList(t *testing.T) {
	for _, l := range lists(5) {
		want := true
		for i := range l {
			for j := range i {
				want = want && l[j] < l[i]
			}
		}
		if Is(l) != want {
			t.Errorf("Is(%v) = %v", l, !want)
		}
		if !Is(Make(l)) {
			t.Errorf("Make(%v) is no such list: %v", l, Make(l))
		}
	}
}

// P9.1
func TestIsFindsAFaultAnywhere(t *testing.T) {
	l := make([]int, 50)
	for i := range l {
		l[i] = 3*i - 70
	}
	if !Is(l) {
		t.Errorf("Is(%v) = false", l)
	}
	for i := 1; i < len(l); i++ {
		old := l[i]
		for _, n := range []int{l[i-1], l[i-1] - 1, l[0], math.MinInt} {
			l[i] = n
			if Is(l) {
				t.Errorf("Is(%v) = true", l)
			}
		}
		l[i] = old
	}
}

// P9.1
func TestHasOfEveryShortList(t *testing.T) {
	for _, l := range lists(4) {
		for _, n := range append(edges(), 2, -2, math.MinInt+1, math.MaxInt-1) {
			if Has(l, n) != in(l, n) {
				t.Errorf("Has(%v, %d) = %v", l, n, !in(l, n))
			}
		}
	}
}

// P9.2
func TestPutAndCutOfEveryShortList(t *testing.T) {
	universe := []int{math.MinInt, math.MinInt + 1, -1, 0, 1, 2, math.MaxInt - 1, math.MaxInt}
	for _, l := range lists(4) {
		for _, n := range universe {
			with := those(universe, func(m int) bool { return m == n || in(l, m) })
			same(t, "Put", Put(l, n), with, l, n)
			without := those(universe, func(m int) bool { return m != n && in(l, m) })
			same(t, "Cut", Cut(l, n), without, l, n)
		}
	}
}

// P9.2
func TestPairsOfShortLists(t *testing.T) {
	for _, a := range lists(3) {
		for _, b := range lists(3) {
			both := those(edges(), func(n int) bool { return in(a, n) && in(b, n) })
			same(t, "And", And(a, b), both, a, b)
			either := those(edges(), func(n int) bool { return in(a, n) || in(b, n) })
			same(t, "Or", Or(a, b), either, a, b)
			rest := those(edges(), func(n int) bool { return in(a, n) && !in(b, n) })
			same(t, "Not", Not(a, b), rest, a, b)
		}
	}
}

// P9.2
func TestOperationsOnGivenLists(t *testing.T) {
	for _, q := range []struct{ a, b, and, or, not []int }{
		{[]int{3, 1}, []int{2, 1}, []int{1}, []int{1, 2, 3}, []int{3}},
		{[]int{9, 9, 4, 4}, []int{4, 9, 4}, []int{4, 9}, []int{4, 9}, nil},
		{[]int{8, 2, 6}, []int{7, 1, 7}, nil, []int{1, 2, 6, 7, 8}, []int{2, 6, 8}},
		{[]int{5, -5, 5}, nil, nil, []int{-5, 5}, []int{-5, 5}},
		{nil, []int{5, -5, 5}, nil, []int{-5, 5}, nil},
		{[]int{}, []int{}, nil, nil, nil},
		{[]int{4, 3, 2, 1}, []int{3}, []int{3}, []int{1, 2, 3, 4}, []int{1, 2, 4}},
		{[]int{3}, []int{4, 3, 2, 1}, []int{3}, []int{1, 2, 3, 4}, nil},
		{[]int{math.MaxInt, math.MinInt}, []int{math.MinInt, 0}, []int{math.MinInt}, []int{math.MinInt, 0, math.MaxInt}, []int{math.MaxInt}},
	} {
		same(t, "And", And(q.a, q.b), q.and, q.a, q.b)
		same(t, "Or", Or(q.a, q.b), q.or, q.a, q.b)
		same(t, "Not", Not(q.a, q.b), q.not, q.a, q.b)
	}
}

// P9.1, P9.2
func TestLongLists(t *testing.T) {
	const most = 6000
	// Multiples of 2 and of 3, out of order, each twice.
	var a, b, universe []int
	for i := range 2 * most {
		a = append(a, 2*(i*7919%most)-most)
		b = append(b, 3*(i*6007%most)-most)
	}
	for n := -most; n <= 2*most; n++ {
		universe = append(universe, n)
	}
	inA := func(n int) bool { return n%2 == 0 && n < most }
	inB := func(n int) bool { return n%3 == 0 && n < 2*most }
	same(t, "Make", Make(a), those(universe, inA))
	same(t, "Make", Make(b), those(universe, inB))
	same(t, "And", And(a, b), those(universe, func(n int) bool { return inA(n) && inB(n) }))
	same(t, "Or", Or(a, b), those(universe, func(n int) bool { return inA(n) || inB(n) }))
	same(t, "Not", Not(a, b), those(universe, func(n int) bool { return inA(n) && !inB(n) }))
	same(t, "Not", Not(b, a), those(universe, func(n int) bool { return inB(n) && !inA(n) }))
	same(t, "Put", Put(a, 1), those(universe, func(n int) bool { return n == 1 || inA(n) }))
	same(t, "Cut", Cut(a, 2), those(universe, func(n int) bool { return n != 2 && inA(n) }))
}

// calls returns what each function that returns a list makes of a and b.
func calls(a, b []int) [][]int {
	return [][]int{Make(a), Put(a, 5), Put(a, 1), Cut(a, 5), Cut(a, 1), And(a, b), Or(a, b), Not(a, b)}
}

// spoil writes over l and over its spare capacity.
func spoil(l []int) {
	l = l[:cap(l)]
	for i := range l {
		l[i] = 1234567
	}
}

// R2
func TestArgumentsStayAndResultsAreNew(t *testing.T) {
	for _, a := range lists(3) {
		for _, b := range lists(2) {
			want := calls(a, b)
			// The lists stand in one array, and behind each of them is room with numbers that are not its own.
			room := slices.Concat(a, []int{77, 66, 77}, b, []int{55, 44})
			before := slices.Clone(room)
			from := len(a) + 3
			got := calls(room[:len(a)], room[from:from+len(b)])
			Is(room[:len(a)])
			Has(room[:len(a)], 66)
			for i := range got {
				same(t, "a call with room", got[i], want[i], i, a, b)
				spoil(got[i])
				for j := i + 1; j < len(got); j++ {
					same(t, "another result", got[j], want[j], i, j, a, b)
				}
			}
			same(t, "what was handed in", room, before, a, b)
			for i, l := range calls(a, b) {
				same(t, "a later call", l, want[i], i, a, b)
			}
		}
	}
}

// R2
func TestArgumentsThatShareMemory(t *testing.T) {
	l := []int{6, 2, 6, 4, 8, 2}
	before := slices.Clone(l)
	same(t, "And", And(l, l), []int{2, 4, 6, 8}, l)
	same(t, "Or", Or(l, l), []int{2, 4, 6, 8}, l)
	same(t, "Not", Not(l, l), nil, l)
	same(t, "And", And(l[:4], l[3:]), []int{2, 4}, l)
	same(t, "Or", Or(l[:4], l[3:]), []int{2, 4, 6, 8}, l)
	same(t, "Not", Not(l[:4], l[3:]), []int{6}, l)
	same(t, "what was handed in", l, before)
}

// R5
func TestSpareCapacityIsNotRead(t *testing.T) {
	l := []int{3, 1, 2, 0}[:2]
	same(t, "Make", Make(l), []int{1, 3})
	same(t, "Put", Put(l, 9), []int{1, 3, 9})
	same(t, "And", And([]int{2, 3}, l), []int{3})
	same(t, "Not", Not([]int{2, 3}, l), []int{2})
	if Has(l, 2) || Is(l) || !Is(l[1:]) {
		t.Error("what is behind the list was read")
	}
}
