package clock

import (
	"math"
	"math/big"
	"testing"

	"sordine/api"
)

const greatest = uint64(math.MaxUint64)

// edges returns the small numbers, those around every power of two, the clock's end among them, and those before the greatest number of 64 bits.
func edges() []uint64 {
	var all []uint64
	for n := range uint64(8) {
		all = append(all, n, greatest-n)
	}
	for _, bit := range []int{5, 20, 31, 32, 39, 40, 41, 53, 62, 63} {
		p := uint64(1) << bit
		all = append(all, p-1, p, p+1)
	}
	return all
}

// number returns n without bounds, and plus the sum of two, so that the tests do not add as the program does.
func number(n uint64) *big.Int { return new(big.Int).SetUint64(n) }

func plus(a, b uint64) *big.Int { return new(big.Int).Add(number(a), number(b)) }

// P11.1: ticks one by one.
func TestKnownTicks(t *testing.T) {
	for _, q := range []struct {
		now, n, want uint64
		ok           bool
	}{
		{0, 0, 0, true},
		{0, 1, 1, true},
		{1, 0, 1, true},
		{300, 45, 345, true},
		{0, api.MaxClock - 1, api.MaxClock - 1, true},
		{0, api.MaxClock, api.MaxClock, true},
		{0, api.MaxClock + 1, 0, false},
		{1, api.MaxClock - 1, api.MaxClock, true},
		{1, api.MaxClock, 0, false},
		{2, api.MaxClock - 1, 0, false},
		{api.MaxClock - 1, 0, api.MaxClock - 1, true},
		{api.MaxClock - 1, 1, api.MaxClock, true},
		{api.MaxClock - 1, 2, 0, false},
		{api.MaxClock, 0, api.MaxClock, true},
		{api.MaxClock, 1, 0, false},
		{api.MaxClock, api.MaxClock, 0, false},
		{api.MaxClock + 1, 0, 0, false},
		{api.MaxClock / 2, api.MaxClock / 2, api.MaxClock, true},
		{api.MaxClock / 2, api.MaxClock/2 + 1, 0, false},
		{1 << 63, 0, 0, false},
		{greatest, 0, 0, false},
		{0, greatest, 0, false},
		{0, greatest - 1, 0, false},
		// As words of 64 bits these sums would be small times.
		{1, greatest, 0, false},
		{greatest, 1, 0, false},
		{2, greatest, 0, false},
		{5, greatest - 3, 0, false},
		{greatest, 5, 0, false},
		{1 << 63, 1 << 63, 0, false},
		{api.MaxClock, greatest - api.MaxClock + 1, 0, false},
		{api.MaxClock, greatest, 0, false},
		{greatest, api.MaxClock + 1, 0, false},
		{greatest, api.MaxClock + 2, 0, false},
		{greatest, greatest, 0, false},
	} {
		if later, ok := Tick(q.now, q.n); later != q.want || ok != q.ok {
			t.Errorf("Tick(%d, %d) = %d, %v, want %d, %v", q.now, q.n, later, ok, q.want, q.ok)
		}
	}
}

// P11.1, T6: a tick adds without bounds; beside false there is 0, and beside true the clock does not decrease.
func TestTickAddsWithoutBounds(t *testing.T) {
	for _, now := range edges() {
		for _, n := range edges() {
			s := plus(now, n)
			want := s.Cmp(number(api.MaxClock)) <= 0
			later, ok := Tick(now, n)
			if ok != want || ok && number(later).Cmp(s) != 0 || !ok && later != 0 {
				t.Errorf("Tick(%d, %d) = %d, %v, where the sum is %s", now, n, later, ok, s)
			}
			if ok && (later < now || later > api.MaxClock) {
				t.Errorf("Tick(%d, %d) = %d", now, n, later)
			}
		}
	}
}

// P11.1: however often the clock ticks, it comes to its end exactly, and stays.
func TestTicksUpToTheEnd(t *testing.T) {
	now, ok := uint64(0), true
	for i := range 16 {
		if now, ok = Tick(now, api.MaxClock/16); !ok || now != uint64(i+1)*(api.MaxClock/16) {
			t.Fatalf("tick %d: %d, %v", i, now, ok)
		}
	}
	if later, ok := Tick(now, 0); later != now || !ok {
		t.Errorf("Tick(%d, 0) = %d, %v", now, later, ok)
	}
	if later, ok := Tick(now, api.MaxClock/16); later != 0 || ok {
		t.Errorf("Tick(%d, ..) = %d, %v", now, later, ok)
	}
}

// P11.1, and the chapter's section 'Runs'.
func TestKnownStates(t *testing.T) {
	for _, q := range []struct {
		now, start, end uint64
		want            int
	}{
		{5, 5, 6, api.Active},
		{6, 5, 6, api.Expired},
		{4, 5, 6, api.Pending},
		{7, 5, 6, api.Expired},
		{10, 11, 20, api.Pending},
		{11, 11, 20, api.Active},
		{12, 11, 20, api.Active},
		{19, 11, 20, api.Active},
		{20, 11, 20, api.Expired},
		{21, 11, 20, api.Expired},
		{0, 0, 1, api.Active},
		{1, 0, 1, api.Expired},
		{0, 1, 2, api.Pending},
		// The start is the end.
		{0, 0, 0, api.Expired},
		{4, 5, 5, api.Pending},
		{5, 5, 5, api.Expired},
		{6, 5, 5, api.Expired},
		// The start is behind the end.
		{0, 1, 0, api.Expired},
		{6, 8, 7, api.Pending},
		{7, 8, 7, api.Expired},
		{8, 8, 7, api.Expired},
		{9, 8, 7, api.Expired},
		{5, 20, 10, api.Pending},
		{9, 20, 10, api.Pending},
		{10, 20, 10, api.Expired},
		{15, 20, 10, api.Expired},
		{25, 20, 10, api.Expired},
		// An end at the clock's end, and beyond it.
		{api.MaxClock - 1, api.MaxClock - 1, api.MaxClock, api.Active},
		{api.MaxClock - 2, api.MaxClock - 1, api.MaxClock, api.Pending},
		{api.MaxClock, 0, api.MaxClock, api.Expired},
		{api.MaxClock, 0, api.MaxClock + 1, api.Active},
		{api.MaxClock, api.MaxClock + 1, api.MaxClock + 2, api.Pending},
		{api.MaxClock + 1, 0, api.MaxClock + 1, api.Expired},
		{0, 0, greatest, api.Active},
		{greatest - 1, 0, greatest, api.Active},
		{greatest - 1, greatest, greatest, api.Pending},
		{greatest, 0, greatest, api.Expired},
		{greatest, greatest, greatest, api.Expired},
		{0, greatest, 0, api.Expired},
		{0, greatest, 1, api.Pending},
		// Numbers of which the greater one would be negative if it had a sign.
		{1, 0, 1 << 63, api.Active},
		{1, 1 << 63, greatest, api.Pending},
		{1 << 63, 0, 1, api.Expired},
		{1 << 63, 1, greatest, api.Active},
	} {
		if state := State(q.now, q.start, q.end); state != q.want {
			t.Errorf("State(%d, %d, %d) = %d, want %d", q.now, q.start, q.end, state, q.want)
		}
	}
}

// P11.1: the end is asked for before the start.
func TestStateIsOneOfThree(t *testing.T) {
	for _, now := range edges() {
		for _, start := range edges() {
			for _, end := range edges() {
				var want int
				switch over, begun := now >= end, now >= start; {
				case over:
					want = api.Expired
				case begun:
					want = api.Active
				default:
					want = api.Pending
				}
				if state := State(now, start, end); state != want {
					t.Errorf("State(%d, %d, %d) = %d, want %d", now, start, end, state, want)
				}
			}
		}
	}
}

// P11.1: as time goes on, something is pending, then active, then expired, each for as long as it says.
func TestStatesInTheirOrder(t *testing.T) {
	for start := range uint64(12) {
		for end := range uint64(12) {
			var times [4]uint64
			last := api.Pending
			for now := range uint64(20) {
				state := State(now, start, end)
				if state < last || state > api.Expired {
					t.Fatalf("State(%d, %d, %d) = %d behind %d", now, start, end, state, last)
				}
				last = state
				times[state]++
			}
			pending := min(start, end)
			if times != [4]uint64{api.Pending: pending, api.Active: end - pending, api.Expired: 20 - end} {
				t.Errorf("from %d to %d: %v", start, end, times)
			}
		}
	}
}

// P11.1, and the chapter's section 'Runs'.
func TestKnownGone(t *testing.T) {
	for _, q := range []struct {
		now, end, retention uint64
		want                bool
	}{
		{6, 5, 2, false},
		{7, 5, 2, true},
		{8, 5, 2, true},
		{5, 5, 2, false},
		{4, 5, 2, false},
		{0, 5, 2, false},
		{0, 0, 0, true},
		{1, 0, 0, true},
		{0, 0, 1, false},
		{0, 1, 0, false},
		{1, 0, 1, true},
		{1, 1, 0, true},
		{4, 5, 0, false},
		{5, 5, 0, true},
		{6, 5, 0, true},
		{1, 0, 2, false},
		{2, 0, 2, true},
		{99, 50, 50, false},
		{100, 50, 50, true},
		{api.MaxClock - 1, api.MaxClock, 0, false},
		{api.MaxClock, api.MaxClock, 0, true},
		{api.MaxClock, api.MaxClock, 1, false},
		{api.MaxClock, api.MaxClock - 1, 1, true},
		{api.MaxClock, api.MaxClock + 1, 0, false},
		// The sum is not cut at the clock's end.
		{api.MaxClock, api.MaxClock, api.MaxRetention, false},
		{api.MaxClock + 1, api.MaxClock, api.MaxRetention, false},
		{api.MaxClock + api.MaxRetention - 1, api.MaxClock, api.MaxRetention, false},
		{api.MaxClock + api.MaxRetention, api.MaxClock, api.MaxRetention, true},
		{api.MaxClock + api.MaxRetention + 1, api.MaxClock, api.MaxRetention, true},
		{api.MaxClock, api.MaxClock - api.MaxRetention, api.MaxRetention, true},
		{api.MaxClock - 1, api.MaxClock - api.MaxRetention, api.MaxRetention, false},
		// The sum is the greatest number of 64 bits.
		{greatest, greatest, 0, true},
		{greatest - 1, greatest, 0, false},
		{greatest, 0, greatest, true},
		{greatest - 1, 0, greatest, false},
		{greatest, greatest - 1, 1, true},
		{greatest, 1, greatest - 1, true},
		{greatest - 1, 1, greatest - 1, false},
		{greatest, 1 << 63, 1<<63 - 1, true},
		// The sum is greater: as a word of 64 bits it would be small.
		{greatest, greatest, 1, false},
		{greatest, 1, greatest, false},
		{greatest, 1 << 63, 1 << 63, false},
		{greatest, greatest, greatest, false},
		{greatest, 2, greatest - 1, false},
		{0, greatest, 1, false},
		{0, 1, greatest, false},
		{1, 2, greatest, false},
		{5, 5, greatest, false},
		{greatest - 1, greatest, greatest, false},
		// Numbers of which the greater one would be negative if it had a sign.
		{1, 1 << 62, 1 << 62, false},
		{1 << 63, 1, 1, true},
	} {
		if gone := Gone(q.now, q.end, q.retention); gone != q.want {
			t.Errorf("Gone(%d, %d, %d) = %v", q.now, q.end, q.retention, gone)
		}
	}
}

// P11.1: the end and the retention are added without bounds.
func TestGoneAddsWithoutBounds(t *testing.T) {
	for _, end := range edges() {
		for _, retention := range edges() {
			due := plus(end, retention)
			// The word of the sum, and those beside it, are the times at which a sum that began again at 0 would tell something else.
			word := end + retention
			for _, now := range append(edges(), word-1, word, word+1) {
				if want := number(now).Cmp(due) >= 0; Gone(now, end, retention) != want {
					t.Errorf("Gone(%d, %d, %d) = %v", now, end, retention, !want)
				}
			}
		}
	}
}

// P11.1: spans one by one, where each of the three conditions fails alone, by one, and where all of them just hold.
func TestKnownSpans(t *testing.T) {
	for _, q := range []struct {
		now, start, end uint64
		want            bool
	}{
		{3, 5, 9, true},
		{5, 5, 9, true},
		{7, 5, 9, true},
		{0, 0, 1, true},
		{0, 0, 0, false},
		{1, 0, 1, false},
		{0, 1, 1, false},
		{0, 1, 2, true},
		// The start beside the end.
		{3, 8, 9, true},
		{3, 9, 9, false},
		{3, 10, 9, false},
		{3, greatest, 9, false},
		// The clock beside the end.
		{8, 5, 9, true},
		{9, 5, 9, false},
		{10, 5, 9, false},
		{greatest, 5, 9, false},
		// A span in the past, and one that is both too late and reversed.
		{20, 5, 9, false},
		{20, 9, 5, false},
		{9, 9, 9, false},
		// The end beside the clock's end.
		{3, 5, api.MaxClock - 1, true},
		{3, 5, api.MaxClock, true},
		{3, 5, api.MaxClock + 1, false},
		{0, 0, api.MaxClock, true},
		{0, 0, api.MaxClock + 1, false},
		{api.MaxClock - 1, api.MaxClock - 1, api.MaxClock, true},
		{api.MaxClock - 1, api.MaxClock, api.MaxClock, false},
		{api.MaxClock, api.MaxClock - 1, api.MaxClock, false},
		{api.MaxClock, api.MaxClock, api.MaxClock + 1, false},
		{api.MaxClock, 0, api.MaxClock + 1, false},
		{api.MaxClock, 0, api.MaxClock, false},
		{0, api.MaxClock, api.MaxClock + 1, false},
		{0, 0, 1 << 63, false},
		{0, 0, greatest, false},
		{greatest - 1, greatest - 1, greatest, false},
		{greatest, greatest, greatest, false},
	} {
		if may := Span(q.now, q.start, q.end); may != q.want {
			t.Errorf("Span(%d, %d, %d) = %v", q.now, q.start, q.end, may)
		}
	}
}

// P11.1: a span needs all three conditions.
func TestSpanNeedsAllThree(t *testing.T) {
	for _, now := range edges() {
		for _, start := range edges() {
			for _, end := range edges() {
				want := true
				for _, each := range []bool{start < end, now < end, end <= 1<<40} {
					want = want && each
				}
				if Span(now, start, end) != want {
					t.Errorf("Span(%d, %d, %d) = %v", now, start, end, !want)
				}
			}
		}
	}
}

// P11.1: what Span lets through is pending or active, and is expired at its end, before the clock's end is passed.
func TestSpanAndState(t *testing.T) {
	for _, now := range edges() {
		for _, start := range edges() {
			for _, end := range edges() {
				if !Span(now, start, end) {
					continue
				}
				if State(now, start, end) == api.Expired || State(end, start, end) != api.Expired || State(end-1, start, end) != api.Active {
					t.Errorf("from %d to %d at %d: %d", start, end, now, State(now, start, end))
				}
				if later, ok := Tick(now, end-now); later != end || !ok {
					t.Errorf("Tick(%d, %d) = %d, %v", now, end-now, later, ok)
				}
			}
		}
	}
}

// R4: the same numbers give the same answers, in whatever order they are asked.
func TestAnswersDoNotHangOnEarlierOnes(t *testing.T) {
	for range 3 {
		if later, ok := Tick(4, 5); later != 9 || !ok {
			t.Errorf("Tick(4, 5) = %d, %v", later, ok)
		}
		if later, ok := Tick(api.MaxClock, 1); later != 0 || ok {
			t.Errorf("Tick(MaxClock, 1) = %d, %v", later, ok)
		}
		if State(4, 3, 5) != api.Active || Gone(4, 3, 2) || !Span(4, 3, 5) {
			t.Error("an answer is another one")
		}
	}
}
