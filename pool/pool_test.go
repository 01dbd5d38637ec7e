package pool

import (
	"math"
	"slices"
	"testing"

	"sordine/api"
	"sordine/rows"
)

// never returns numbers that no pool of these tests gives out.
func never() []int {
	return []int{0, -1, -2, math.MinInt, math.MinInt + 1, math.MaxInt, math.MaxInt - 1, math.MaxInt32 + 1, 1 << 32, 1<<32 + 1, math.MinInt32}
}

// mosts returns the numbers that New takes as 0.
func mosts() []int {
	return []int{0, -1, -2, -7, math.MinInt32, math.MinInt + 1, math.MinInt}
}

// A pair is a pool beside its model, which remembers for each number that was ever given out whether it is out; each change is made in both.
type pair struct {
	t    *testing.T
	p    *Pool
	most int
	from int // the greatest number given out before the model began
	is   []bool
}

func newPair(t *testing.T, most int) *pair {
	return &pair{t: t, p: New(most), most: most}
}

// last returns the greatest number that was ever given out.
func (m *pair) last() int { return m.from + len(m.is) }

// all returns the numbers that are out, ascending.
func (m *pair) all() []int {
	var all []int
	for i, is := range m.is {
		if is {
			all = append(all, m.from+i+1)
		}
	}
	return all
}

// has reports whether id is out.
func (m *pair) has(id int) bool { return id > m.from && id <= m.last() && m.is[id-m.from-1] }

// take takes from both, and checks the answer.
func (m *pair) take() {
	m.t.Helper()
	before, want, ok := m.all(), m.last()+1, len(m.all()) < m.most && m.last() < api.MaxID
	if !ok {
		want = 0
	} else {
		m.is = append(m.is, true)
	}
	if id, got := m.p.Take(); id != want || got != ok {
		m.t.Fatalf("Take() = %d, %v, want %d, %v, with %v out of %d", id, got, want, ok, before, m.most)
	}
}

// give gives to both, and checks the answer.
func (m *pair) give(id int) {
	m.t.Helper()
	before, want := m.all(), m.has(id)
	if want {
		m.is[id-m.from-1] = false
	}
	if got := m.p.Give(id); got != want {
		m.t.Fatalf("Give(%d) = %v, want %v, with %v out of %d", id, got, want, before, m.most)
	}
}

// check compares all that the pool answers without changing with the model.
func (m *pair) check() {
	m.t.Helper()
	all := m.all()
	if got := m.p.All(); !slices.Equal(got, all) || !rows.Is(got) {
		m.t.Fatalf("All() = %v, want %v", got, all)
	}
	if got := m.p.Last(); got != m.last() {
		m.t.Fatalf("Last() = %d, want %d", got, m.last())
	}
	for id := m.from - 2; id <= m.last()+2; id++ {
		if got := m.p.Has(id); got != m.has(id) {
			m.t.Fatalf("Has(%d) = %v, want %v, with %v", id, got, m.has(id), all)
		}
	}
	for _, id := range never() {
		if m.p.Has(id) {
			m.t.Fatalf("Has(%d) = true, with %v", id, all)
		}
	}
}

// P12.1: the runs that the chapter names.
func TestRuns(t *testing.T) {
	p := New(1)
	if id, ok := p.Take(); id != 1 || !ok {
		t.Error(id, ok)
	}
	if id, ok := p.Take(); id != 0 || ok {
		t.Error(id, ok)
	}
	if !p.Give(1) {
		t.Error("1 was out")
	}
	if id, ok := p.Take(); id != 2 || !ok {
		t.Error(id, ok)
	}
}

// P12.1: nothing is out of a new pool, and nothing can be given back to it, whatever its most.
func TestNewHasNothingOut(t *testing.T) {
	for _, most := range append(mosts(), 1, 2, 6, api.MaxAlerts, api.MaxID, math.MaxInt) {
		m := newPair(t, most)
		m.check()
		if len(m.p.All()) != 0 || m.p.Last() != 0 {
			t.Errorf("New(%d): %v, %d", most, m.p.All(), m.p.Last())
		}
		for _, id := range append(never(), 1, 2, 3, most) {
			m.give(id)
		}
		m.check()
	}
}

// P12.1: a most of 0 and a negative one give nothing out, however often one asks.
func TestNoRoomAtAll(t *testing.T) {
	for _, most := range mosts() {
		p := New(most)
		for range 3 {
			if id, ok := p.Take(); id != 0 || ok {
				t.Fatalf("New(%d): Take() = %d, %v", most, id, ok)
			}
			if p.Give(0) || p.Give(1) || p.Give(most) || p.Last() != 0 || len(p.All()) != 0 || p.Has(1) || p.Has(0) {
				t.Fatalf("New(%d): something is out", most)
			}
		}
	}
}

// P12.1: exactly most numbers may be out at the same time.
func TestMost(t *testing.T) {
	for most := range 20 {
		m := newPair(t, most)
		for range most + 2 {
			m.take()
			m.check()
		}
		if len(m.p.All()) != most || m.p.Last() != most {
			t.Errorf("New(%d): %v, %d", most, m.p.All(), m.p.Last())
		}
	}
}

// P12.1: a most that is greater than any number holds nothing back.
func TestGreatMost(t *testing.T) {
	for _, most := range []int{1000, math.MaxInt32, api.MaxID, math.MaxInt} {
		p := New(most)
		for i := range 1000 {
			if id, ok := p.Take(); id != i+1 || !ok {
				t.Fatalf("New(%d): Take() = %d, %v, want %d", most, id, ok, i+1)
			}
		}
		if all := p.All(); len(all) != 1000 || all[0] != 1 || all[999] != 1000 || !rows.Is(all) {
			t.Errorf("New(%d): All() = %v", most, all)
		}
	}
}

// P12.1: numbers one by one, with all that the pool answers after each change.
func TestKnownNumbers(t *testing.T) {
	p := New(3)
	for i, q := range []struct {
		give int // what is given back; 0 where one is taken
		id   int
		ok   bool
		last int
		all  []int
	}{
		{0, 1, true, 1, []int{1}},
		{0, 2, true, 2, []int{1, 2}},
		{3, 0, false, 2, []int{1, 2}},
		{0, 3, true, 3, []int{1, 2, 3}},
		{0, 0, false, 3, []int{1, 2, 3}},
		{4, 0, false, 3, []int{1, 2, 3}},
		{-1, 0, false, 3, []int{1, 2, 3}},
		{2, 0, true, 3, []int{1, 3}},
		{2, 0, false, 3, []int{1, 3}},
		{0, 4, true, 4, []int{1, 3, 4}},
		{0, 0, false, 4, []int{1, 3, 4}},
		{2, 0, false, 4, []int{1, 3, 4}},
		{4, 0, true, 4, []int{1, 3}},
		{3, 0, true, 4, []int{1}},
		{1, 0, true, 4, nil},
		{1, 0, false, 4, nil},
		{0, 5, true, 5, []int{5}},
		{5, 0, true, 5, nil},
		{0, 6, true, 6, []int{6}},
		{0, 7, true, 7, []int{6, 7}},
		{6, 0, true, 7, []int{7}},
		{0, 8, true, 8, []int{7, 8}},
		{0, 9, true, 9, []int{7, 8, 9}},
		{0, 0, false, 9, []int{7, 8, 9}},
	} {
		var id int
		var ok bool
		if q.give == 0 {
			id, ok = p.Take()
		} else {
			ok = p.Give(q.give)
		}
		if id != q.id || ok != q.ok || p.Last() != q.last || !slices.Equal(p.All(), q.all) {
			t.Fatalf("%d: %d, %v, %d, %v, want %v", i, id, ok, p.Last(), p.All(), q)
		}
		for n := -1; n < 12; n++ {
			if p.Has(n) != slices.Contains(q.all, n) {
				t.Fatalf("%d: Has(%d) = %v, with %v", i, n, p.Has(n), q.all)
			}
		}
	}
}

// P12.1: what is not out cannot be given back, and the refusal changes nothing, room included.
func TestGiveWhatIsNotOut(t *testing.T) {
	m := newPair(t, 4)
	for range 4 {
		m.take()
	}
	m.give(2)
	m.take()
	for _, id := range append(never(), 2, 6, 7, -5, -3, 1<<32+5, api.MaxID) {
		m.give(id)
		m.check()
		// It is full still: a refusal makes no room.
		m.take()
	}
	if !slices.Equal(m.p.All(), []int{1, 3, 4, 5}) || m.p.Last() != 5 {
		t.Error(m.p.All(), m.p.Last())
	}
}

// P12.1, T6: numbers given back in any order, the greatest first or last among them, never come again, and Last stays.
func TestNoneComesTwice(t *testing.T) {
	const n = 5
	var orders func(done []int, each func([]int))
	orders = func(done []int, each func([]int)) {
		if len(done) == n {
			each(done)
			return
		}
		for id := 1; id <= n; id++ {
			if !slices.Contains(done, id) {
				orders(append(slices.Clone(done), id), each)
			}
		}
	}
	orders(nil, func(order []int) {
		m := newPair(t, n)
		for range n {
			m.take()
		}
		for i, id := range order {
			m.give(id)
			m.give(id)
			m.check()
			if m.p.Last() != n || len(m.p.All()) != n-1-i {
				t.Fatalf("%v: %d, %v", order, m.p.Last(), m.p.All())
			}
		}
		for i := range n {
			if id, ok := m.p.Take(); id != n+1+i || !ok {
				t.Fatalf("%v: Take() = %d, %v", order, id, ok)
			}
		}
		if _, ok := m.p.Take(); ok || !slices.Equal(m.p.All(), []int{6, 7, 8, 9, 10}) {
			t.Fatalf("%v: %v", order, m.p.All())
		}
	})
}

// P12.1: every run of seven changes, from pools with little room, answers as the model does.
func TestEveryShortRun(t *testing.T) {
	const long, changes = 7, 5
	runs := 1
	for range long {
		runs *= changes
	}
	for most := range 4 {
		// The whole run is told by one number: each of its digits is a number to be given back, or 0 for a take.
		for run := range runs {
			m := newPair(t, most)
			rest := run
			for range long {
				if id := rest % changes; id > 0 {
					m.give(id)
				} else {
					m.take()
				}
				rest /= changes
			}
			m.check()
		}
	}
}

// P12.1: a long run with much room, in which the numbers come back in an order of no kind.
func TestLongRun(t *testing.T) {
	m := newPair(t, 40)
	word, full := uint32(1), 0
	for range 6000 {
		word = word*1664525 + 1013904223
		if word>>31 == 0 {
			m.take()
		} else {
			m.give(m.last() - int(word>>20&63))
		}
		m.check()
		if len(m.all()) == m.most {
			full++
		}
	}
	if m.last() < 500 || full < 100 {
		t.Error("the run tells too little", m.last(), full)
	}
}

// P12.1: the number MaxID is the last one; what is out can be given back then, and makes room, but no number comes any more.
func TestLastNumber(t *testing.T) {
	for _, most := range []int{1, 2, 3, 8, math.MaxInt} {
		for before := range 4 {
			m := newPair(t, most)
			// So many takes would last too long for a test.
			m.from = api.MaxID - before
			m.p.last = m.from
			m.check()
			for range 5 {
				m.take()
				m.check()
			}
			for _, id := range m.all() {
				m.give(id)
				m.give(id)
				m.take()
				m.check()
			}
			for range before + 1 {
				m.take()
				m.give(m.last())
				m.check()
			}
			m.take()
			if m.p.Last() != api.MaxID {
				t.Errorf("New(%d), %d before the end: Last() = %d", most, before, m.p.Last())
			}
		}
	}
}

// P12.1, R3: with room, and Last at MaxID, Take returns false, and 0 beside it, and changes nothing.
func TestTakeAtTheEnd(t *testing.T) {
	p := New(5)
	p.last = api.MaxID - 1
	if id, ok := p.Take(); id != api.MaxID || !ok {
		t.Fatal(id, ok)
	}
	for range 3 {
		if id, ok := p.Take(); id != 0 || ok || p.Last() != api.MaxID || !slices.Equal(p.All(), []int{api.MaxID}) || !p.Has(api.MaxID) {
			t.Fatal(id, ok, p.Last(), p.All())
		}
	}
	if !p.Give(api.MaxID) || p.Give(api.MaxID) || p.Has(api.MaxID) {
		t.Error("MaxID was out, once")
	}
	if id, ok := p.Take(); id != 0 || ok || p.Last() != api.MaxID || len(p.All()) != 0 {
		t.Error(id, ok, p.Last(), p.All())
	}
}

// P12.1: many numbers from a pool with room for one alone, none of them twice.
func TestManyNumbers(t *testing.T) {
	p := New(1)
	for i := range 100000 {
		if id, ok := p.Take(); id != i+1 || !ok {
			t.Fatal(id, ok, i)
		}
		if _, ok := p.Take(); ok {
			t.Fatal("two are out", i)
		}
		if !p.Give(i+1) || p.Has(i+1) || p.Last() != i+1 {
			t.Fatal(i)
		}
	}
}

// R2: what All returns is the caller's, its spare capacity included, and stays as it was when the pool changes.
func TestAllIsNew(t *testing.T) {
	p := New(6)
	for range 5 {
		p.Take()
	}
	p.Give(2)
	want := []int{1, 3, 4, 5}
	first, second := p.All(), p.All()
	for _, l := range [][]int{first, p.All()} {
		l = l[:cap(l)]
		for i := range l {
			l[i] = -9
		}
	}
	if !slices.Equal(p.All(), want) || !slices.Equal(second, want) {
		t.Error("a caller's change is seen", p.All(), second)
	}
	p.Take()
	p.Give(1)
	p.Give(4)
	p.Take()
	if !slices.Equal(second, want) {
		t.Error("a later change is seen in an earlier list", second)
	}
	if !slices.Equal(p.All(), []int{3, 5, 6, 7}) {
		t.Error(p.All())
	}
	if p.Has(-9) || p.Give(-9) {
		t.Error("a caller put a number in")
	}
}

// R2: what a caller appends to a list of the pool changes neither the pool nor another list.
func TestAppendToAll(t *testing.T) {
	for room := range 10 {
		p := New(room + 1)
		for range room {
			p.Take()
		}
		first, second := p.All(), p.All()
		_ = append(first, -1, -2, -3)
		p.Take()
		_ = append(second, -4, -5, -6)
		all := p.All()
		if len(all) != room+1 || all[room] != room+1 || len(first) != room || len(second) != room {
			t.Error(room, first, second, all)
		}
	}
}

// R4: two pools know nothing of one another, and the same changes have the same answers.
func TestPoolsAreAlone(t *testing.T) {
	a, b, c := newPair(t, 3), newPair(t, 1), newPair(t, 3)
	for i := range 200 {
		a.take()
		c.take()
		if i%3 == 0 {
			a.give(i / 3)
			c.give(i / 3)
		}
		if i%7 == 0 {
			b.take()
			b.give(b.last() - i%2)
		}
		a.check()
		b.check()
		c.check()
		if !slices.Equal(a.p.All(), c.p.All()) || a.p.Last() != c.p.Last() {
			t.Fatal(a.p.All(), c.p.All())
		}
	}
}
