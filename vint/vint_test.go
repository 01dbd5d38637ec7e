package vint

import (
	"bytes"
	"math"
	"strings"
	"testing"
)

var numbers = []struct {
	n    uint64
	form string
}{
	{0, "\x00"},
	{1, "\x01"},
	{127, "\x7f"},
	{128, "\x80\x01"},
	{255, "\xff\x01"},
	{300, "\xac\x02"},
	{1<<14 - 1, "\xff\x7f"},
	{1 << 14, "\x80\x80\x01"},
	{1<<32 - 1, "\xff\xff\xff\xff\x0f"},
	{1<<63 - 1, "\xff\xff\xff\xff\xff\xff\xff\xff\x7f"},
	{1 << 63, "\x80\x80\x80\x80\x80\x80\x80\x80\x80\x01"},
	{math.MaxUint64, "\xff\xff\xff\xff\xff\xff\xff\xff\xff\x01"},
}

// sample returns the numbers around every power of two, where the count of groups changes.
func sample() []uint64 {
	var all []uint64
	for bit := range 64 {
		p := uint64(1) << bit
		all = append(all, p-1, p, p+1, ^p, -p)
	}
	return all
}

// P1.1
func TestPutWritesTheGroups(t *testing.T) {
	for _, q := range numbers {
		if b := Put(q.n); string(b) != q.form {
			t.Errorf("Put(%d) = % x, want % x", q.n, b, q.form)
		}
	}
}

// P1.1
func TestPutMarksEveryByteButTheLast(t *testing.T) {
	for _, n := range sample() {
		b := Put(n)
		last := len(b) - 1
		for i, c := range b {
			if (c >= 128) != (i < last) {
				t.Errorf("Put(%d) = % x: byte %d", n, b, i)
			}
		}
		if b[last] == 0 && n != 0 {
			t.Errorf("Put(%d) = % x ends with 0", n, b)
		}
	}
}

// P1.1
func TestGetReadsWhatPutWrote(t *testing.T) {
	for _, n := range sample() {
		form := Put(n)
		for _, rest := range []string{"", "\x00", "\x01", "\x80", "\xff\xff\x01"} {
			got, size, ok := Get([]byte(string(form) + rest))
			if got != n || size != len(form) || !ok {
				t.Errorf("Get(% x, then % x) = %d, %d, %v", form, rest, got, size, ok)
			}
		}
	}
}

// P1.1
func TestGetRefusesACutNumber(t *testing.T) {
	for _, q := range numbers {
		for cut := range len(q.form) {
			wantNoNumber(t, q.form[:cut])
		}
	}
	if n, size, ok := Get(nil); n != 0 || size != 0 || ok {
		t.Errorf("Get(nil) = %d, %d, %v", n, size, ok)
	}
}

// P1.1
func TestGetRefusesALongerForm(t *testing.T) {
	for _, n := range sample() {
		b := Put(n)
		b[len(b)-1] += 128
		wantNoNumber(t, string(b)+"\x00")
		wantNoNumber(t, string(b)+"\x80\x00")
	}
}

// P1.1
func TestGetRefusesMoreThan64Bits(t *testing.T) {
	for _, nine := range []string{strings.Repeat("\x80", 9), strings.Repeat("\xff", 9)} {
		for last := 2; last < 256; last++ {
			wantNoNumber(t, nine+string([]byte{byte(last)}))
			wantNoNumber(t, nine+string([]byte{byte(last), 1}))
		}
		wantNoNumber(t, nine+"\x00")
		wantNoNumber(t, nine+"\x80\x01")
		wantNoNumber(t, nine+"\x81\x01")
	}
	wantNoNumber(t, strings.Repeat("\x80", 100)+"\x01")
}

// P1.1: over all strings of two bytes, Get finds exactly the forms that Put makes.
func TestGetOfAllShortStrings(t *testing.T) {
	forms := map[string]uint64{}
	for n := range uint64(1 << 14) {
		forms[string(Put(n))] = n
	}
	for i := range 1 << 16 {
		b := []byte{byte(i >> 8), byte(i)}
		want, found := forms[string(b[:1])]
		size := 1
		if !found {
			want, found = forms[string(b)]
			size = 2
		}
		if !found {
			size = 0
		}
		if n, k, ok := Get(b); n != want || k != size || ok != found {
			t.Fatalf("Get(% x) = %d, %d, %v, want %d, %d, %v", b, n, k, ok, want, size, found)
		}
	}
}

// P1.2
func TestPutTextWritesLengthAndBytes(t *testing.T) {
	for _, q := range []struct{ s, form string }{
		{"", "\x00"},
		{"ab", "\x02ab"},
		{"\x00\xff\x80", "\x03\x00\xff\x80"},
		{strings.Repeat("x", 127), "\x7f" + strings.Repeat("x", 127)},
		{strings.Repeat("x", 128), "\x80\x01" + strings.Repeat("x", 128)},
		{strings.Repeat("x", 300), "\xac\x02" + strings.Repeat("x", 300)},
	} {
		if b := PutText(q.s); string(b) != q.form {
			t.Errorf("PutText(%q) = % x", q.s, b)
		}
	}
}

// P1.2
func TestGetTextReadsWhatPutTextWrote(t *testing.T) {
	for _, size := range []int{0, 1, 2, 24, 127, 128, 300, 1 << 14} {
		s := strings.Repeat("\xfe", size)
		form := string(PutText(s))
		for _, rest := range []string{"", "\x00", "\xfe\xfe"} {
			for _, most := range []int{size, size + 1, math.MaxInt} {
				got, k, ok := GetText([]byte(form+rest), most)
				if got != s || k != len(form) || !ok {
					t.Errorf("GetText of %d bytes, most %d = %d bytes, %d, %v", size, most, len(got), k, ok)
				}
			}
			for _, most := range []int{size - 1, -1, math.MinInt} {
				wantNoText(t, form+rest, most)
			}
		}
	}
}

// P1.2
func TestGetTextRefusesWhatIsCut(t *testing.T) {
	for _, s := range []string{"", "a", "ab", strings.Repeat("x", 200)} {
		form := string(PutText(s))
		for cut := range len(form) {
			wantNoText(t, form[:cut], math.MaxInt)
		}
	}
	if s, k, ok := GetText(nil, 9); s != "" || k != 0 || ok {
		t.Errorf("GetText(nil) = %q, %d, %v", s, k, ok)
	}
}

// P1.2
func TestGetTextRefusesAWrongLength(t *testing.T) {
	for _, b := range []string{
		"\x80\x00",
		"\x82\x00ab",
		"\x80ab",
		string(Put(math.MaxInt64)) + "ab",
		string(Put(1<<63)) + "ab",
		string(Put(math.MaxUint64)) + "ab",
		string(Put(1<<32+2)) + "ab",
		"\xff\xff\xff\xff\xff\xff\xff\xff\xff\x02ab",
	} {
		for _, most := range []int{0, 2, 1 << 33, math.MaxInt} {
			wantNoText(t, b, most)
		}
	}
}

// P1.3
func TestPutWordWritesTheMostSignificantByteFirst(t *testing.T) {
	for _, q := range []struct {
		w    uint64
		form string
	}{
		{0, "\x00\x00\x00\x00\x00\x00\x00\x00"},
		{1, "\x00\x00\x00\x00\x00\x00\x00\x01"},
		{0x0123456789abcdef, "\x01\x23\x45\x67\x89\xab\xcd\xef"},
		{1 << 63, "\x80\x00\x00\x00\x00\x00\x00\x00"},
		{math.MaxUint64, "\xff\xff\xff\xff\xff\xff\xff\xff"},
	} {
		if b := PutWord(q.w); string(b) != q.form {
			t.Errorf("PutWord(%x) = % x", q.w, b)
		}
	}
}

// P1.3
func TestGetWordReadsWhatPutWordWrote(t *testing.T) {
	for _, w := range sample() {
		form := string(PutWord(w))
		for _, rest := range []string{"", "\x00", "\xff\xff"} {
			if got, ok := GetWord([]byte(form + rest)); got != w || !ok {
				t.Errorf("GetWord(% x, then % x) = %x, %v", form, rest, got, ok)
			}
		}
		for cut := range len(form) {
			if got, ok := GetWord([]byte(form[:cut])); got != 0 || ok {
				t.Errorf("GetWord(% x) = %x, %v", form[:cut], got, ok)
			}
		}
	}
	if w, ok := GetWord(nil); w != 0 || ok {
		t.Errorf("GetWord(nil) = %x, %v", w, ok)
	}
}

// R2 and R5: what is read is not changed, and bytes behind the length are not looked at.
func TestReadersKeepToTheLength(t *testing.T) {
	whole := []byte("\x82\x01\x02ab\x05\x06\x07\x08\x09")
	before := bytes.Clone(whole)
	if n, k, ok := Get(whole[:1]); n != 0 || k != 0 || ok {
		t.Errorf("Get read behind the length: %d, %d, %v", n, k, ok)
	}
	if s, k, ok := GetText(whole[2:4], 9); s != "" || k != 0 || ok {
		t.Errorf("GetText read behind the length: %q, %d, %v", s, k, ok)
	}
	if w, ok := GetWord(whole[:7]); w != 0 || ok {
		t.Errorf("GetWord read behind the length: %x, %v", w, ok)
	}
	if !bytes.Equal(whole, before) {
		t.Errorf("the argument became % x", whole)
	}
}

// R2: what was returned stays as it is when the argument or another result is changed.
func TestResultsAreNewMemory(t *testing.T) {
	b := []byte("\x02ab")
	s, _, _ := GetText(b, 2)
	b[1] = 'z'
	if s != "ab" {
		t.Errorf("the text became %q", s)
	}
	for _, write := range []func() []byte{
		func() []byte { return Put(300) },
		func() []byte { return PutText("ab") },
		func() []byte { return PutWord(300) },
	} {
		first := write()
		want := string(first)
		second := write()
		clear(second[:cap(second)])
		if string(first) != want {
			t.Errorf("% x became % x", want, first)
		}
	}
}

func wantNoNumber(t *testing.T, b string) {
	t.Helper()
	if n, k, ok := Get([]byte(b)); n != 0 || k != 0 || ok {
		t.Errorf("Get(% x) = %d, %d, %v, want none", b, n, k, ok)
	}
}

func wantNoText(t *testing.T, b string, most int) {
	t.Helper()
	if s, k, ok := GetText([]byte(b), most); s != "" || k != 0 || ok {
		t.Errorf("GetText(% x, %d) = %q, %d, %v, want none", b, most, s, k, ok)
	}
}
