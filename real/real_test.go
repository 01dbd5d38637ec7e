package real

import (
	"fmt"
	"math"
	"math/big"
	"slices"
	"strings"
	"testing"

	"sordine/api"
)

const oneNaN = 0x7ff8000000000001

var (
	inf   = math.Inf(1)
	minus = math.Copysign(0, -1)
	tiny  = math.SmallestNonzeroFloat64
	huge  = math.MaxFloat64
	nan   = math.Float64frombits(oneNaN)
)

// ascending holds values in the document's order, each once.
var ascending = []float64{
	-inf, -huge, -1e300, -2, math.Nextafter(-1, -2), -1, math.Nextafter(-1, 0), -0.5, -0x1p-1022, -0x1p-1022 + tiny, -2 * tiny, -tiny,
	minus, 0,
	tiny, 2 * tiny, 0x1p-1022 - tiny, 0x1p-1022, 0.5, math.Nextafter(1, 0), 1, math.Nextafter(1, 2), 2, 90, 1e300, huge, inf,
	nan,
}

// otherNaNs returns NaNs of both signs, quiet and signalling, whose bits are not those of the one NaN.
func otherNaNs() []float64 {
	var all []float64
	for _, u := range []uint64{
		0x7ff0000000000001, 0x7ff0000000000002, 0x7ff7ffffffffffff, 0x7ff8000000000000, 0x7ff8000000000002, 0x7fffffffffffffff,
		0xfff0000000000001, 0xfff7ffffffffffff, 0xfff8000000000000, 0xfff8000000000001, 0xfff8000000000002, 0xffffffffffffffff,
	} {
		all = append(all, math.Float64frombits(u))
	}
	return all
}

// everything returns the values of ascending, and the other NaNs.
func everything() []float64 {
	return append(slices.Clone(ascending), otherNaNs()...)
}

// sameBits compares by all bits, those of NaNs too.
func sameBits(a, b float64) bool {
	return math.Float64bits(a) == math.Float64bits(b)
}

// shown tells values apart that %v would not.
func shown(l ...float64) string {
	var t []string
	for _, f := range l {
		t = append(t, fmt.Sprintf("%016x", math.Float64bits(f)))
	}
	return strings.Join(t, " ")
}

// lists returns every list of at most four of some values, the edges among them.
func lists() [][]float64 {
	some := []float64{1, minus, 0, -inf, inf, nan, math.Float64frombits(0xfff0000000000123), -2}
	all := [][]float64{nil}
	last := all
	for range 4 {
		var longer [][]float64
		for _, l := range last {
			for _, f := range some {
				longer = append(longer, append(slices.Clone(l), f))
			}
		}
		all = append(all, longer...)
		last = longer
	}
	return all
}

// P3.1
func TestBitsOfKnownValues(t *testing.T) {
	for _, q := range []struct {
		f float64
		u uint64
	}{
		{0, 0},
		{minus, 0x8000000000000000},
		{1, 0x3ff0000000000000},
		{-1, 0xbff0000000000000},
		{-1.5, 0xbff8000000000000},
		{tiny, 1},
		{-tiny, 0x8000000000000001},
		{huge, 0x7fefffffffffffff},
		{-huge, 0xffefffffffffffff},
		{inf, 0x7ff0000000000000},
		{-inf, 0xfff0000000000000},
		{nan, oneNaN},
	} {
		if u := Bits(q.f); u != q.u {
			t.Errorf("Bits(%v) = %016x, want %016x", q.f, u, q.u)
		}
		if f, ok := Of(q.u); !ok || !sameBits(f, q.f) {
			t.Errorf("Of(%016x) = %s, %v", q.u, shown(f), ok)
		}
	}
}

// P3.1: NaNs of any bits.
func TestAllNaNsHaveTheSameBits(t *testing.T) {
	for _, f := range otherNaNs() {
		if u := Bits(f); u != oneNaN {
			t.Errorf("Bits(%s) = %016x", shown(f), u)
		}
		if g, ok := Of(math.Float64bits(f)); ok || !sameBits(g, 0) {
			t.Errorf("Of(%s) = %s, %v, want none", shown(f), shown(g), ok)
		}
	}
}

// P3.1: around each place where the kind of value changes, and each single bit.
func TestOfIsTheInverseOfBits(t *testing.T) {
	for _, u := range someBits() {
		f, ok := Of(u)
		isNaN := u&0x7ff0000000000000 == 0x7ff0000000000000 && u&0x000fffffffffffff != 0
		if want := !isNaN || u == oneNaN; ok != want {
			t.Errorf("Of(%016x) is %v", u, ok)
		}
		if ok && (Bits(f) != u || math.Float64bits(f) != u) || !ok && !sameBits(f, 0) {
			t.Errorf("Of(%016x) = %s, %v", u, shown(f), ok)
		}
	}
}

// someBits returns the words around those that begin a kind of value, and those with one bit set or missing.
func someBits() []uint64 {
	var all []uint64
	for _, u := range []uint64{0, 1 << 52, 0x3ff << 52, 0x7fe << 52, 0x7ff << 52, oneNaN} {
		for d := range uint64(7) {
			all = append(all, u+d-3, (u+d-3)^1<<63)
		}
	}
	for bit := range 64 {
		all = append(all, 1<<bit, ^uint64(1<<bit))
	}
	return all
}

// P3.2
func TestLessIsTheDocumentsOrder(t *testing.T) {
	for i, a := range ascending {
		for j, b := range ascending {
			if got := Less(a, b); got != (i < j) {
				t.Errorf("Less(%v, %v) = %v", a, b, got)
			}
		}
	}
	if !Less(minus, 0) || Less(0, minus) {
		t.Error("-0 is before +0, and not behind it")
	}
}

// P3.2: all NaNs are equal, and behind all others, whatever their sign.
func TestLessOfNaNs(t *testing.T) {
	nans := append(otherNaNs(), nan)
	for _, a := range nans {
		for _, b := range nans {
			if Less(a, b) {
				t.Errorf("%s is before %s", shown(a), shown(b))
			}
		}
		for _, f := range ascending[:len(ascending)-1] {
			if !Less(f, a) || Less(a, f) {
				t.Errorf("%v is not before %s", f, shown(a))
			}
		}
	}
}

// P3.2
func TestKeyOfKnownValues(t *testing.T) {
	for _, q := range []struct {
		f float64
		k uint64
	}{
		{0, 0x8000000000000000},
		{minus, 0x7fffffffffffffff},
		{1, 0xbff0000000000000},
		{-1, 0x400fffffffffffff},
		{tiny, 0x8000000000000001},
		{-tiny, 0x7ffffffffffffffe},
		{inf, 0xfff0000000000000},
		{-inf, 0x000fffffffffffff},
		{nan, 0xfff8000000000001},
	} {
		if k := Key(q.f); k != q.k {
			t.Errorf("Key(%v) = %016x, want %016x", q.f, k, q.k)
		}
	}
	for _, f := range otherNaNs() {
		if k := Key(f); k != 0xfff8000000000001 {
			t.Errorf("Key(%s) = %016x", shown(f), k)
		}
	}
}

// P3.2
func TestKeyAscendsWithLess(t *testing.T) {
	all := everything()
	for _, u := range someBits() {
		all = append(all, math.Float64frombits(u))
	}
	for _, a := range all {
		for _, b := range all {
			if (Key(a) < Key(b)) != Less(a, b) || (Key(a) == Key(b)) != (Bits(a) == Bits(b)) {
				t.Errorf("Key(%s) = %016x, Key(%s) = %016x", shown(a), Key(a), shown(b), Key(b))
			}
		}
	}
}

// P3.3
func TestMayWithAny(t *testing.T) {
	if !May(api.Band{Any: true}) {
		t.Error("the band of everything is refused")
	}
	for _, f := range append(everything(), -3) {
		if sameBits(f, 0) {
			continue
		}
		for _, b := range []api.Band{{Any: true, Lo: f}, {Any: true, Hi: f}, {Any: true, Lo: f, Hi: f}} {
			if May(b) {
				t.Errorf("with Any, %s is accepted", shown(b.Lo, b.Hi))
			}
		}
	}
}

// number returns f as a number of another kind, and false for a NaN.
func number(f float64) (*big.Float, bool) {
	if math.IsNaN(f) {
		return nil, false
	}
	return new(big.Float).SetFloat64(f), true
}

// atMost compares as numbers, without the comparisons of floats.
func atMost(a, b float64) bool {
	x, ok := number(a)
	y, ok2 := number(b)
	return ok && ok2 && x.Cmp(y) <= 0
}

// P3.3
func TestMayWithoutAny(t *testing.T) {
	for _, lo := range everything() {
		for _, hi := range everything() {
			if got := May(api.Band{Lo: lo, Hi: hi}); got != atMost(lo, hi) {
				t.Errorf("May(%v to %v) = %v", lo, hi, got)
			}
		}
	}
	for _, b := range []api.Band{{}, {Lo: 0, Hi: minus}, {Lo: minus, Hi: 0}, {Lo: -inf, Hi: inf}, {Lo: inf, Hi: inf}, {Lo: -inf, Hi: -inf}} {
		if !May(b) {
			t.Errorf("from %v to %v is refused", b.Lo, b.Hi)
		}
	}
}

// P3.3
func TestInEveryBand(t *testing.T) {
	for _, lo := range everything() {
		for _, hi := range everything() {
			for _, f := range everything() {
				want := atMost(lo, hi) && atMost(lo, f) && atMost(f, hi)
				if got := In(api.Band{Lo: lo, Hi: hi}, f); got != want {
					t.Errorf("In(%v to %v, %v) = %v", lo, hi, f, got)
				}
			}
		}
	}
}

// P3.3: NaNs are in a band with Any only; nothing is in a band that is not valid.
func TestInWithAny(t *testing.T) {
	for _, f := range everything() {
		if !In(api.Band{Any: true}, f) {
			t.Errorf("%s is not in the band of everything", shown(f))
		}
		for _, b := range []api.Band{{Any: true, Lo: minus}, {Any: true, Hi: minus}, {Any: true, Lo: -inf, Hi: inf}, {Any: true, Lo: nan}, {Any: true, Hi: nan}} {
			if In(b, f) {
				t.Errorf("%s is in a band that is not valid", shown(f))
			}
		}
	}
}

// P3.3, and the chapter's section 'Runs'.
func TestInKnownBands(t *testing.T) {
	for _, q := range []struct {
		lo, hi, f float64
		in        bool
	}{
		{0, 1, minus, true},
		{0, 1, -tiny, false},
		{0, 1, 1, true},
		{0, 1, math.Nextafter(1, 2), false},
		{minus, minus, 0, true},
		{0, minus, 0, true},
		{0, minus, minus, true},
		{0, minus, tiny, false},
		{90, inf, 90, true},
		{90, inf, inf, true},
		{90, inf, nan, false},
		{90, inf, math.Nextafter(90, 0), false},
		{-inf, inf, math.Float64frombits(0xffffffffffffffff), false},
		{1, 0, 0.5, false},
		{1, 0, 1, false},
	} {
		if got := In(api.Band{Lo: q.lo, Hi: q.hi}, q.f); got != q.in {
			t.Errorf("In(%v to %v, %v) = %v", q.lo, q.hi, q.f, got)
		}
	}
}

// P3.4
func TestMinAndMaxOfNothing(t *testing.T) {
	for _, l := range [][]float64{nil, {}, make([]float64, 3)[:0]} {
		if f, ok := Min(l); ok || !sameBits(f, 0) {
			t.Errorf("Min of nothing = %s, %v", shown(f), ok)
		}
		if f, ok := Max(l); ok || !sameBits(f, 0) {
			t.Errorf("Max of nothing = %s, %v", shown(f), ok)
		}
	}
}

// P3.4
func TestMinAndMaxOfKnownLists(t *testing.T) {
	odd := math.Float64frombits(0xfff0000000000123)
	for _, q := range []struct {
		l          []float64
		least, top float64
	}{
		{[]float64{3}, 3, 3},
		{[]float64{3, -2, 7, 7, -2, 1}, -2, 7},
		{[]float64{minus}, minus, minus},
		{[]float64{0, minus}, minus, 0},
		{[]float64{minus, 0}, minus, 0},
		{[]float64{nan, 0, minus, odd}, minus, 0},
		{[]float64{inf, -inf}, -inf, inf},
		{[]float64{inf, nan}, inf, inf},
		{[]float64{odd, -inf}, -inf, -inf},
		{[]float64{nan}, nan, nan},
		{[]float64{odd}, nan, nan},
		{[]float64{odd, math.Float64frombits(0x7ff8000000000000), odd}, nan, nan},
		{[]float64{-tiny, -huge}, -huge, -tiny},
	} {
		if f, ok := Min(q.l); !ok || !sameBits(f, q.least) {
			t.Errorf("Min(%v) = %s, %v", q.l, shown(f), ok)
		}
		if f, ok := Max(q.l); !ok || !sameBits(f, q.top) {
			t.Errorf("Max(%v) = %s, %v", q.l, shown(f), ok)
		}
	}
}

// P3.4
func TestMinAndMaxAreTheEndsOfEveryList(t *testing.T) {
	for _, l := range lists() {
		least, ok := Min(l)
		top, ok2 := Max(l)
		if ok != (len(l) > 0) || ok2 != ok {
			t.Fatalf("%v: %v, %v", l, ok, ok2)
		}
		numbers := slices.DeleteFunc(slices.Clone(l), math.IsNaN)
		if len(numbers) == 0 {
			continue
		}
		isIn := func(f float64) bool {
			return slices.ContainsFunc(numbers, func(g float64) bool { return sameBits(f, g) })
		}
		if !isIn(least) || !isIn(top) {
			t.Fatalf("%v: %s and %s are not in it", l, shown(least), shown(top))
		}
		for _, f := range numbers {
			if Less(f, least) || Less(top, f) {
				t.Fatalf("%v: %s is beyond %s and %s", l, shown(f), shown(least), shown(top))
			}
		}
	}
}

// P3.4, and the chapter's section 'Runs'.
func TestRankOfKnownLists(t *testing.T) {
	odd := math.Float64frombits(0xfff0000000000123)
	for _, q := range []struct {
		l    []float64
		want []int
	}{
		{nil, nil},
		{[]float64{}, nil},
		{[]float64{nan}, []int{0}},
		{[]float64{1, nan, minus, 0}, []int{0, 3, 2, 1}},
		{[]float64{odd, 2, nan, 2, -inf, inf, 2}, []int{5, 1, 3, 6, 4, 0, 2}},
		{[]float64{nan, odd, math.Float64frombits(0x7ff8000000000000), nan}, []int{0, 1, 2, 3}},
		{[]float64{minus, 0, minus, 0}, []int{1, 3, 0, 2}},
		{[]float64{-1, -2, -inf, -tiny}, []int{3, 0, 1, 2}},
		{[]float64{5, 5, 5}, []int{0, 1, 2}},
	} {
		if got := Rank(q.l); !slices.Equal(got, q.want) {
			t.Errorf("Rank(%v) = %v, want %v", q.l, got, q.want)
		}
	}
}

// mayFollow reports whether index j may stand behind index i in the rank of l.
func mayFollow(l []float64, i, j int) bool {
	a, b := l[i], l[j]
	switch {
	case math.IsNaN(a) != math.IsNaN(b):
		return math.IsNaN(b)
	case Less(a, b) || Less(b, a):
		return Less(b, a)
	}
	return i < j
}

// wantRanked checks that Rank returns each index of l once, in order.
func wantRanked(t *testing.T, l []float64) {
	t.Helper()
	r := Rank(l)
	sorted := slices.Sorted(slices.Values(r))
	for i, k := range sorted {
		if i != k {
			t.Fatalf("Rank(%v) = %v", l, r)
		}
	}
	if len(r) != len(l) {
		t.Fatalf("Rank(%v) = %v", l, r)
	}
	for k := 1; k < len(r); k++ {
		if !mayFollow(l, r[k-1], r[k]) {
			t.Fatalf("Rank(%v) = %v: place %d", l, r, k)
		}
	}
}

// P3.4: short lists of the edges, and long ones with many equal values, which a sort that is not stable would mix.
func TestRankOfEveryList(t *testing.T) {
	for _, l := range lists() {
		wantRanked(t, l)
	}
	for _, n := range []int{11, 12, 13, 50, 1000, 5000} {
		long := make([]float64, n)
		for i := range long {
			long[i] = everything()[(i*i+i/5)%(len(ascending)+3)]
		}
		wantRanked(t, long)
	}
}

// P3.5, and the chapter's section 'Runs'.
func TestTextOfKnownValues(t *testing.T) {
	for _, q := range []struct {
		f    float64
		text string
	}{
		{nan, "nan"},
		{inf, "+inf"},
		{-inf, "-inf"},
		{0, "+0"},
		{minus, "-0"},
		{1, "3ff0000000000000"},
		{-1, "bff0000000000000"},
		{tiny, "0000000000000001"},
		{-tiny, "8000000000000001"},
		{huge, "7fefffffffffffff"},
		{-huge, "ffefffffffffffff"},
		{math.Float64frombits(0x0123456789abcdef), "0123456789abcdef"},
		{math.Float64frombits(0xfedcba9876543210), "fedcba9876543210"},
	} {
		if s := Text(q.f); s != q.text {
			t.Errorf("Text(%v) = %q, want %q", q.f, s, q.text)
		}
		if f, ok := Read(q.text); !ok || !sameBits(f, q.f) {
			t.Errorf("Read(%q) = %s, %v", q.text, shown(f), ok)
		}
	}
	for _, f := range otherNaNs() {
		if s := Text(f); s != "nan" {
			t.Errorf("Text(%s) = %q", shown(f), s)
		}
	}
}

// P3.5
func TestReadIsTheInverseOfText(t *testing.T) {
	for _, u := range someBits() {
		f := math.Float64frombits(u)
		s := Text(f)
		g, ok := Read(s)
		if !ok || math.Float64bits(g) != Bits(f) {
			t.Errorf("Read(%q) = %s, %v", s, shown(g), ok)
		}
		// The digits of a value that has a name are nobody's text.
		written := fmt.Sprintf("%016x", u)
		if h, ok := Read(written); ok != (s == written) || ok && math.Float64bits(h) != u || !ok && !sameBits(h, 0) {
			t.Errorf("Read(%q) = %s, %v", written, shown(h), ok)
		}
	}
}

// P3.5: texts that are nearly one.
func TestReadRefusesOtherTexts(t *testing.T) {
	for _, s := range []string{
		"", " ", "NaN", "NAN", "na", "nan ", " nan", "nann", "+nan", "-nan", "nan\x00",
		"inf", "+Inf", "-INF", "+in", "-inf ", "+infinity", "++inf",
		"0", "1", "+", "-", "+00", "-00", " 0", "+0 ", "-0\n", "+1", "-1", "+0.0", "1e0", "\xe2\x88\x920",
		"0000000000000000", "8000000000000000", "7ff0000000000000", "fff0000000000000",
		"7ff8000000000001", "7ff8000000000000", "7ff0000000000001", "fff8000000000001", "ffffffffffffffff",
		"3FF0000000000000", "3Ff0000000000000", "3ff000000000000F",
		"3ff000000000000", "3ff00000000000000", "13ff0000000000000", "03ff0000000000000", " 3ff0000000000000", "3ff0000000000000 ",
		"0x3ff00000000000", "+3ff000000000000", "-3ff000000000000", "3ff0_00000000000", "3ff0 00000000000",
		"00000000000000000000000000000001", strings.Repeat("0", 1000),
	} {
		if f, ok := Read(s); ok || !sameBits(f, 0) {
			t.Errorf("Read(%q) = %s, %v, want none", s, shown(f), ok)
		}
	}
}

// P3.5: each byte at each place of a text of digits.
func TestReadTakesNoOtherDigits(t *testing.T) {
	for i := range 16 {
		for c := range 256 {
			s := []byte("3ff0123456789abc")
			s[i] = byte(c)
			isDigit := strings.IndexByte("0123456789abcdef", byte(c)) >= 0
			f, ok := Read(string(s))
			// These digits are the bits of a NaN, and so nobody's text.
			isNaN := string(s[:3]) == "7ff" || string(s[:3]) == "fff"
			if ok != (isDigit && !isNaN) || ok && Text(f) != string(s) {
				t.Errorf("Read(%q) = %s, %v", s, shown(f), ok)
			}
		}
	}
}

// R2, R5: lists are neither changed nor read behind their length, and a rank is new memory.
func TestListsStayAsTheyAre(t *testing.T) {
	for n := range 7 {
		room := []float64{2, math.Float64frombits(0xfff0000000000123), minus, 0, nan, -inf, inf, -huge, 5}
		before := shown(room...)
		first := Rank(room[:n])
		want := slices.Clone(first)
		second := Rank(room[:n])
		for i := range second[:cap(second)] {
			second[:cap(second)][i] = -7
		}
		least, _ := Min(room[:n])
		top, _ := Max(room[:n])
		if shown(room...) != before || !slices.Equal(first, want) {
			t.Fatalf("%d values: %s, and the rank %v", n, shown(room...), first)
		}
		short := slices.Clone(room[:n])
		aloneLeast, _ := Min(short)
		aloneTop, _ := Max(short)
		if !sameBits(least, aloneLeast) || !sameBits(top, aloneTop) || !slices.Equal(first, Rank(short)) {
			t.Fatalf("%d values: the spare capacity was read", n)
		}
	}
}
