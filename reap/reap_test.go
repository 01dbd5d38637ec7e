package reap

import (
	"cmp"
	"math"
	"slices"
	"testing"

	"sordine/api"
)

// far is the greatest time.
const far = math.MaxUint64

// ids returns numbers of all kinds, ascending.
func ids() []int {
	return []int{math.MinInt, math.MinInt + 1, math.MinInt32 - 1, math.MinInt32, -2, -1, 0, 1, 2, math.MaxInt32, math.MaxInt32 + 1, 1 << 32, 1<<32 + 1, math.MaxInt - 1, math.MaxInt}
}

// times returns times of all kinds, ascending.
func times() []uint64 {
	return []uint64{0, 1, 2, math.MaxInt32, math.MaxUint32, 1 << 32, 1<<32 + 1, api.MaxClock - 1, api.MaxClock, api.MaxClock + 1, math.MaxInt64, 1 << 63, 1<<63 + 1, far - 1, far}
}

// steps returns the steps with which swapped comes by each of the places of ids and of times once.
func steps() []int {
	return []int{1, 2, 4, 7, 8, 11, 13, 14}
}

// swapped returns l in the order of the places 0, step, 2*step and so on, round and round.
func swapped[T any](l []T, step int) []T {
	var all []T
	for i := range l {
		all = append(all, l[i*step%len(l)])
	}
	return all
}

// orders calls each with every order of the numbers from 0 to n-1.
func orders(n int, each func([]int)) {
	var more func(done []int)
	more = func(done []int) {
		if len(done) == n {
			each(done)
			return
		}
		for i := range n {
			if !slices.Contains(done, i) {
				more(append(slices.Clone(done), i))
			}
		}
	}
	more(nil)
}

// A pair is a queue beside its model, which remembers when each id is due; each change is made in both.
type pair struct {
	t *testing.T
	q *Queue
	m map[int]uint64
}

func newPair(t *testing.T) *pair {
	return &pair{t: t, q: New(), m: map[int]uint64{}}
}

// until returns the ids that are due at now or before, in order.
func (p *pair) until(now uint64) []int {
	var all []int
	for id, due := range p.m {
		if due <= now {
			all = append(all, id)
		}
	}
	slices.SortFunc(all, func(a, b int) int {
		return cmp.Or(cmp.Compare(p.m[a], p.m[b]), cmp.Compare(a, b))
	})
	return all
}

// put puts id into both.
func (p *pair) put(id int, due uint64) {
	p.m[id] = due
	p.q.Put(id, due)
}

// drop drops id from both, and checks the answer.
func (p *pair) drop(id int) {
	p.t.Helper()
	_, want := p.m[id]
	delete(p.m, id)
	if got := p.q.Drop(id); got != want {
		p.t.Fatalf("Drop(%d) = %v, want %v, with %v", id, got, want, p.m)
	}
}

// due takes out of both what is due at now, and checks the answer.
func (p *pair) due(now uint64) {
	p.t.Helper()
	want := p.until(now)
	for _, id := range want {
		delete(p.m, id)
	}
	if got := p.q.Due(now); !slices.Equal(got, want) {
		p.t.Fatalf("Due(%d) = %v, want %v, with %v left", now, got, want, p.m)
	}
}

// check compares all that the queue answers without changing with the model.
func (p *pair) check() {
	p.t.Helper()
	if got := p.q.Len(); got != len(p.m) {
		p.t.Fatalf("Len() = %d, want %d", got, len(p.m))
	}
	for id := range p.m {
		p.at(id)
	}
	for id := -3; id < 20; id++ {
		p.at(id)
	}
	for _, id := range ids() {
		p.at(id)
	}
	var first int
	if all := p.until(far); len(all) > 0 {
		first = all[0]
	}
	id, due, ok := p.q.First()
	if id != first || due != p.m[first] || ok != (len(p.m) > 0) {
		p.t.Fatalf("First() = %d, %d, %v, with %v", id, due, ok, p.m)
	}
}

// at checks what the queue answers of id.
func (p *pair) at(id int) {
	p.t.Helper()
	want, there := p.m[id]
	if due, ok := p.q.At(id); due != want || ok != there {
		p.t.Fatalf("At(%d) = %d, %v, want %d, %v", id, due, ok, want, there)
	}
}

// P13.1: the runs that the chapter names.
func TestRuns(t *testing.T) {
	q := New()
	q.Put(1, 9)
	q.Put(2, 4)
	q.Put(1, 4)
	if got := q.Due(4); !slices.Equal(got, []int{1, 2}) {
		t.Error(got)
	}
}

// empty checks that q answers as an empty queue does.
func empty(t *testing.T, q *Queue) {
	t.Helper()
	if id, due, ok := q.First(); id != 0 || due != 0 || ok || q.Len() != 0 {
		t.Fatalf("First() = %d, %d, %v, Len() = %d", id, due, ok, q.Len())
	}
	for _, id := range ids() {
		if due, ok := q.At(id); due != 0 || ok || q.Drop(id) {
			t.Fatalf("%d is in an empty queue", id)
		}
	}
	for _, now := range times() {
		if got := q.Due(now); len(got) != 0 {
			t.Fatalf("Due(%d) = %v of an empty queue", now, got)
		}
	}
}

// P13.1, R3: a new queue is empty; beside false, each other answer is 0.
func TestNewIsEmpty(t *testing.T) {
	q := New()
	empty(t, q)
	q.Put(3, 5)
	if id, due, ok := q.First(); id != 3 || due != 5 || !ok || q.Len() != 1 {
		t.Error("what was asked of an empty queue is seen in it", id, due, ok)
	}
}

// P13.1: a queue out of which all was taken, by Drop or by Due, is as a new one.
func TestEmptyAgain(t *testing.T) {
	q := New()
	for range 3 {
		for i, id := range ids() {
			q.Put(id, times()[i])
		}
		for _, id := range ids() {
			if !q.Drop(id) {
				t.Fatal(id)
			}
		}
		empty(t, q)
		for i, id := range ids() {
			q.Put(id, times()[i])
		}
		if got := q.Due(far); !slices.Equal(got, ids()) {
			t.Fatal(got)
		}
		empty(t, q)
	}
	q.Put(0, 0)
	if id, due, ok := q.First(); id != 0 || due != 0 || !ok || q.Len() != 1 {
		t.Error("0 at 0 is in the queue", id, due, ok)
	}
}

// P13.1: id by id, with all that the queue answers after each change.
func TestKnownChanges(t *testing.T) {
	q := New()
	for i, c := range []struct {
		kind  byte // p for Put, d for Drop, u for Due
		id    int
		due   uint64
		ok    bool  // what Drop answers
		out   []int // what Due answers
		first int
		at    uint64
		len   int
	}{
		{'p', 5, 20, false, nil, 5, 20, 1},
		{'p', 7, 30, false, nil, 5, 20, 2},
		{'p', 3, 30, false, nil, 5, 20, 3},
		{'d', 4, 0, false, nil, 5, 20, 3},
		{'u', 0, 19, false, nil, 5, 20, 3},
		{'p', 5, 30, false, nil, 3, 30, 3},
		{'p', 7, 29, false, nil, 7, 29, 3},
		{'p', 7, 29, false, nil, 7, 29, 3},
		{'p', 9, 10, false, nil, 9, 10, 4},
		{'d', 9, 0, true, nil, 7, 29, 3},
		{'d', 9, 0, false, nil, 7, 29, 3},
		{'p', 9, 31, false, nil, 7, 29, 4},
		{'u', 0, 29, false, []int{7}, 3, 30, 3},
		{'u', 0, 29, false, nil, 3, 30, 3},
		{'d', 7, 0, false, nil, 3, 30, 3},
		{'p', 7, 30, false, nil, 3, 30, 4},
		{'d', 3, 0, true, nil, 5, 30, 3},
		{'p', -3, 30, false, nil, -3, 30, 4},
		{'u', 0, 30, false, []int{-3, 5, 7}, 9, 31, 1},
		{'p', 5, 8, false, nil, 5, 8, 2},
		{'u', 0, 40, false, []int{5, 9}, 0, 0, 0},
		{'u', 0, 40, false, nil, 0, 0, 0},
		{'d', 9, 0, false, nil, 0, 0, 0},
		{'p', 9, 40, false, nil, 9, 40, 1},
	} {
		var ok bool
		var out []int
		switch c.kind {
		case 'p':
			q.Put(c.id, c.due)
		case 'd':
			ok = q.Drop(c.id)
		default:
			out = q.Due(c.due)
		}
		first, at, some := q.First()
		if ok != c.ok || !slices.Equal(out, c.out) || first != c.first || at != c.at || some != (c.len > 0) || q.Len() != c.len {
			t.Fatal(i, ok, out, first, at, some, q.Len())
		}
	}
}

// P13.1: an id that is put again is due at its new time alone, be it earlier, later or the same, and is in the queue once.
func TestPutAgain(t *testing.T) {
	for _, old := range times() {
		for _, due := range times() {
			p := newPair(t)
			for i, other := range []uint64{0, 2, 1 << 40, far} {
				p.put(2*i+1, other)
			}
			p.put(4, old)
			p.check()
			p.put(4, due)
			p.check()
			if at, ok := p.q.At(4); at != due || !ok || p.q.Len() != 5 {
				t.Fatal(old, due, at, ok, p.q.Len())
			}
			if due > 0 {
				p.due(due - 1)
				p.check()
			}
			if !slices.Contains(p.q.Due(due), 4) || slices.Contains(p.q.Due(far), 4) || p.q.Drop(4) {
				t.Fatal(old, due, "4 comes at its time, and once")
			}
		}
	}
}

// P13.1: an id that is put again alone is first at its new time.
func TestPutAgainAlone(t *testing.T) {
	q := New()
	for _, id := range ids() {
		for _, due := range append(swapped(times(), 4), times()...) {
			for range 2 {
				q.Put(id, due)
				if first, at, ok := q.First(); first != id || at != due || !ok || q.Len() != 1 {
					t.Fatal(id, due, first, at, q.Len())
				}
			}
		}
		if got := q.Due(far); !slices.Equal(got, []int{id}) {
			t.Fatal(id, got)
		}
	}
}

// P13.1: Drop takes one id out, once, from any place, and leaves the others; it may be put again.
func TestDrop(t *testing.T) {
	for i, id := range ids() {
		p := newPair(t)
		for k, other := range ids() {
			p.put(other, times()[k])
		}
		p.drop(id)
		p.check()
		p.drop(id)
		p.check()
		if p.q.Len() != len(ids())-1 {
			t.Fatal(id, p.q.Len())
		}
		p.put(id, times()[len(ids())-1-i])
		p.check()
		p.due(api.MaxClock)
		p.check()
		p.due(far)
		p.check()
	}
}

// P13.1: Drop of what was never there, or has come out by Due, is false, and changes nothing.
func TestDropWhatIsNotThere(t *testing.T) {
	p := newPair(t)
	for id := range 6 {
		p.put(id, uint64(id))
	}
	p.due(2)
	for _, id := range []int{-1, 6, 7, 0, 1, 2, 1<<32 + 3, -3, math.MinInt, math.MaxInt} {
		if p.q.Drop(id) {
			t.Errorf("Drop(%d) = true", id)
		}
		p.check()
	}
	p.due(far)
	p.check()
}

// P13.1: any numbers are ids, and each is its own, at one time or at several.
func TestAnyIDs(t *testing.T) {
	for _, step := range steps() {
		p := newPair(t)
		for _, id := range swapped(ids(), step) {
			p.put(id, 7)
			p.check()
		}
		if first, _, _ := p.q.First(); first != math.MinInt {
			t.Fatal(first)
		}
		for i, id := range swapped(ids(), step) {
			p.put(id, uint64(i%3))
			p.check()
		}
		for now := range uint64(3) {
			p.due(now)
			p.check()
		}
		if p.q.Len() != 0 {
			t.Fatal(p.q.Len())
		}
	}
}

// P13.1: any numbers are times; the greater id comes first where its time is the lesser one.
func TestAnyTimes(t *testing.T) {
	for _, step := range steps() {
		p := newPair(t)
		down := slices.Clone(ids())
		slices.Reverse(down)
		for i, due := range swapped(times(), step) {
			p.put(swapped(down, step)[i], due)
			p.check()
		}
		for i, due := range times() {
			if first, at, ok := p.q.First(); first != down[i] || at != due || !ok {
				t.Fatal(first, at, ok)
			}
			if i%2 == 0 {
				p.due(due)
			} else {
				p.drop(down[i])
			}
			p.check()
		}
	}
}

// P13.1: ids with the same time, put in any order: First is the least of them, and Due returns them ascending.
func TestSameTime(t *testing.T) {
	five := []int{math.MinInt, -1, 0, 1, math.MaxInt}
	for _, due := range []uint64{0, 1, api.MaxClock, far} {
		orders(len(five), func(order []int) {
			q := New()
			least := math.MaxInt
			for n, i := range order {
				q.Put(five[i], due)
				least = min(least, five[i])
				if first, at, ok := q.First(); first != least || at != due || !ok || q.Len() != n+1 {
					t.Fatal(order, first, at, ok)
				}
			}
			if got := q.Due(due); !slices.Equal(got, five) || q.Len() != 0 {
				t.Fatal(order, got)
			}
		})
	}
}

// P13.1: ids with two times, put in any order: those with the earlier time come first, each time's ascending.
func TestTwoTimes(t *testing.T) {
	orders(5, func(order []int) {
		for late := range 1 << 5 {
			p := newPair(t)
			for _, id := range order {
				p.put(id, 3+uint64(late>>id&1))
			}
			p.check()
			p.due(far)
			p.check()
		}
	})
}

// P13.1: of ids with the same time, the next one is first when the first one is dropped, or gets another time.
func TestFirstGoes(t *testing.T) {
	p := newPair(t)
	for _, id := range []int{4, 2, 5, 1, 3} {
		p.put(id, 6)
	}
	p.drop(1)
	p.check()
	p.put(2, 7)
	p.check()
	if first, at, _ := p.q.First(); first != 3 || at != 6 {
		t.Error(first, at)
	}
	p.put(5, 5)
	if first, at, _ := p.q.First(); first != 5 || at != 5 {
		t.Error(first, at)
	}
	p.check()
	if got := p.q.Due(far); !slices.Equal(got, []int{5, 3, 4, 2}) {
		t.Error(got)
	}
}

// P13.1: Due ahead of all, at just the time of one, behind all, and once more at the same time; the others stay.
func TestDue(t *testing.T) {
	for _, now := range times() {
		p := newPair(t)
		for i, due := range times() {
			// Each time is that of two ids.
			p.put(-i, due)
			p.put(i+1, due)
		}
		want := p.until(now)
		got := p.q.Due(now)
		if !slices.Equal(got, want) || p.q.Len() != 2*len(times())-len(want) {
			t.Fatalf("Due(%d) = %v, want %v", now, got, want)
		}
		for _, id := range want {
			delete(p.m, id)
		}
		p.check()
		p.due(now)
		p.due(now / 2)
		p.due(0)
		p.check()
		for _, later := range times() {
			p.due(later)
			p.check()
		}
	}
}

// P13.1: nothing comes out ahead of its time, and all at it.
func TestDueAtJustTheTime(t *testing.T) {
	for _, due := range times() {
		q := New()
		q.Put(8, due)
		q.Put(6, due)
		for _, now := range []uint64{0, due / 2, due - 1} {
			if now < due {
				if got := q.Due(now); len(got) != 0 || q.Len() != 2 {
					t.Fatal(due, now, got)
				}
			}
		}
		if got := q.Due(due); !slices.Equal(got, []int{6, 8}) || q.Len() != 0 {
			t.Fatal(due, got)
		}
		if got := q.Due(due); len(got) != 0 {
			t.Fatal(due, got)
		}
	}
}

// P13.1: an id that has come out may be put again, also at a time that is past.
func TestPutAfterDue(t *testing.T) {
	p := newPair(t)
	for now := range uint64(20) {
		p.put(1, now)
		p.put(2, now/2)
		p.put(3, now+3)
		p.check()
		p.due(now)
		p.check()
		if now%3 == 0 {
			p.due(now)
		}
		if now%5 == 4 {
			p.due(now + 3)
		}
		p.check()
	}
}

// P13.1: every run of four changes with three ids and three times answers as the model does.
func TestEveryShortRun(t *testing.T) {
	const long, changes = 4, 15
	runs := 1
	for range long {
		runs *= changes
	}
	// The whole run is told by one number: each of its digits is one change.
	for run := range runs {
		p := newPair(t)
		rest := run
		for range long {
			switch c := rest % changes; {
			case c < 9:
				p.put(c%3, uint64(c/3))
			case c < 12:
				p.drop(c - 9)
			default:
				p.due(uint64(c - 12))
			}
			rest /= changes
		}
		if p.q.Len() != len(p.m) {
			t.Fatal(run, p.q.Len(), p.m)
		}
		for id := range 3 {
			p.at(id)
		}
		first, due, ok := p.q.First()
		all := p.until(far)
		if ok != (len(all) > 0) || ok && (first != all[0] || due != p.m[first]) {
			t.Fatal(run, first, due, ok, all)
		}
		p.due(far)
	}
}

// P13.1: a long run with many ids, in an order of no kind.
func TestLongRun(t *testing.T) {
	p := newPair(t)
	word, most, out := uint32(1), 0, 0
	now := uint64(0)
	for range 6000 {
		word = word*1664525 + 1013904223
		id, due := int(word>>24&63)-9, now+uint64(word>>16&31)
		switch word >> 30 {
		case 0, 1:
			p.put(id, due)
		case 2:
			p.drop(id)
		default:
			now += uint64(word >> 20 & 1)
			before := p.q.Len()
			p.due(now)
			out += before - p.q.Len()
		}
		p.check()
		most = max(most, p.q.Len())
	}
	if most < 10 || out < 500 {
		t.Error("the run tells too little", most, out)
	}
}

// P13.1: many ids, put upwards, downwards or in leaps, come out in order.
func TestManyIDs(t *testing.T) {
	const n = 3000
	for _, step := range []int{1, n - 1, 7, 1009} {
		q := New()
		for i := range n {
			id := i * step % n
			q.Put(id, uint64(id/4))
		}
		if q.Len() != n {
			t.Fatal(step, q.Len())
		}
		got := append(q.Due(n/8), q.Due(n)...)
		for i, id := range got {
			if id != i {
				t.Fatal(step, i, id)
			}
		}
		if len(got) != n || q.Len() != 0 {
			t.Fatal(step, len(got), q.Len())
		}
	}
}

// R2: what Due returns is the caller's, its spare capacity included, and what the caller makes of it changes nothing in the queue.
func TestDueIsNew(t *testing.T) {
	for room := range 12 {
		p := newPair(t)
		for id := range 24 {
			p.put(id, uint64(id))
		}
		want := p.until(uint64(room))
		got := p.q.Due(uint64(room))
		for _, id := range want {
			delete(p.m, id)
		}
		kept := slices.Clone(got)
		// What stays, and what is put later, is written by the queue; the list that is out must not see it.
		for id := range 24 {
			p.put(id+30, uint64(id))
		}
		p.drop(20)
		if !slices.Equal(got, kept) || !slices.Equal(got, want) {
			t.Fatal("a later change is seen in an earlier list", got)
		}
		_ = append(got, -1, -2, -3)
		got = got[:cap(got)]
		for i := range got {
			got[i] = -9
		}
		p.check()
		second := p.until(5)
		if l := p.q.Due(5); !slices.Equal(l, second) {
			t.Fatal("a caller's change is seen", l)
		}
		for _, id := range second {
			delete(p.m, id)
		}
		for _, n := range got {
			if n != -9 {
				t.Fatal("two lists share memory", got)
			}
		}
		p.check()
		p.due(far)
		p.check()
	}
}

// R2: no two lists that Due returned share memory.
func TestListsAreAlone(t *testing.T) {
	q := New()
	for id := range 40 {
		q.Put(id, uint64(id/4))
	}
	var lists [][]int
	for now := range uint64(10) {
		lists = append(lists, q.Due(now))
	}
	for _, l := range lists {
		_ = append(l, -5, -6)
	}
	for i, l := range lists {
		if !slices.Equal(l, []int{4 * i, 4*i + 1, 4*i + 2, 4*i + 3}) {
			t.Fatal(i, l)
		}
		l = l[:cap(l)]
		for k := range l {
			l[k] = -9
		}
	}
}

// P13.1: At, First and Len change nothing, however often they are asked.
func TestAskingChangesNothing(t *testing.T) {
	p := newPair(t)
	for id := range 9 {
		p.put(id*5%9, uint64(id/2))
	}
	for range 50 {
		p.check()
	}
	p.due(far)
}

// R4: two queues know nothing of one another, and the same changes have the same answers, in whichever order the ids were put.
func TestQueuesAreAlone(t *testing.T) {
	a, b, c := newPair(t), newPair(t), newPair(t)
	for i := range 200 {
		a.put(i%7, uint64(i*i%50))
		a.put(i%5+10, uint64(i%50))
		c.put(i%5+10, uint64(i%50))
		c.put(i%7, uint64(i*i%50))
		if i%3 == 0 {
			b.put(i%11, uint64(i%4))
		} else {
			b.drop(i % 11)
		}
		a.check()
		b.check()
		c.check()
		if i%10 == 9 {
			a.due(uint64(i / 4))
			c.due(uint64(i / 4))
			b.due(2)
		}
	}
}
