package match

import (
	"bytes"
	"math"
	"slices"
	"testing"

	"sordine/api"
	"sordine/labels"
	"sordine/vint"
)

// wantNoList checks that no list's bytes are at the beginning of b.
func wantNoList(t *testing.T, b []byte) {
	t.Helper()
	if ms, n, ok := Read(b); len(ms) != 0 || n != 0 || ok {
		t.Errorf("Read(%.200q) = %s, %d, %v, want none", b, show(ms...), n, ok)
	}
}

// written returns ms as Bytes would write it, whether it is a list or not.
func written(ms []api.Matcher) []byte {
	b := vint.Put(uint64(len(ms)))
	for _, q := range ms {
		b = append(b, byte(q.Kind))
		b = append(b, vint.PutText(q.Name)...)
		b = append(b, vint.PutText(q.Value)...)
	}
	return b
}

// P8.4
func TestBytesOfKnownLists(t *testing.T) {
	for _, q := range []struct {
		ms   []api.Matcher
		form string
	}{
		{nil, "\x00"},
		{[]api.Matcher{m(api.MEqual, "a", "")}, "\x01\x01\x01a\x00"},
		{[]api.Matcher{m(api.MUnequal, "a", "1")}, "\x01\x02\x01a\x011"},
		{[]api.Matcher{m(api.MLike, "a", "x|")}, "\x01\x03\x01a\x02x|"},
		{[]api.Matcher{m(api.MUnlike, "_9", "\x00\xff")}, "\x01\x04\x02_9\x02\x00\xff"},
		{[]api.Matcher{m(api.MEqual, "a", ""), m(api.MLike, "a", "x|")}, "\x02\x01\x01a\x00\x03\x01a\x02x|"},
		{[]api.Matcher{m(api.MUnlike, "a", "b"), m(api.MEqual, longName, many("y", 24))}, "\x02\x04\x01a\x01b\x01\x0c" + longName + "\x18" + many("y", 24)},
		{[]api.Matcher{m(api.MLike, "a", many("x", 40))}, "\x01\x03\x01a\x28" + many("x", 40)},
	} {
		if b := Bytes(q.ms); string(b) != q.form {
			t.Errorf("Bytes(%s) = %q", show(q.ms...), b)
		}
		if ms, n, ok := Read([]byte(q.form)); !slices.Equal(ms, q.ms) || n != len(q.form) || !ok {
			t.Errorf("Read(%q) = %s, %d, %v", q.form, show(ms...), n, ok)
		}
	}
}

// P8.4
func TestBytesOfNoListAreNone(t *testing.T) {
	for _, ms := range notLists() {
		if b := Bytes(ms); len(b) != 0 {
			t.Errorf("Bytes(%s) = %q", show(ms...), b)
		}
	}
}

// P8.4: nothing behind a list belongs to it.
func TestReadReadsWhatBytesWrote(t *testing.T) {
	for _, want := range lists() {
		form := string(Bytes(want))
		if form != string(written(want)) {
			t.Errorf("Bytes(%s) = %q", show(want...), form)
		}
		for _, rest := range []string{"", "\x00", "\x01", "\xff\xff", "\x01\x01z\x00", form} {
			ms, n, ok := Read([]byte(form + rest))
			if !slices.Equal(ms, want) || n != len(form) || !ok {
				t.Errorf("Read(%q) = %s, %d, %v", form+rest, show(ms...), n, ok)
			}
		}
	}
}

// P8.4
func TestReadRefusesACutList(t *testing.T) {
	wantNoList(t, nil)
	wantNoList(t, []byte{})
	for _, ms := range lists() {
		form := Bytes(ms)
		for cut := range form {
			// The rest stands in the spare capacity, where it does not count.
			wantNoList(t, form[:cut])
			wantNoList(t, form[:cut:cut])
		}
	}
}

// P8.4: what is no list, written as if it were; kinds that do not fit into a byte would come back as others.
func TestReadRefusesWhatIsNoList(t *testing.T) {
	for _, ms := range notLists() {
		if slices.ContainsFunc(ms, func(q api.Matcher) bool { return q.Kind != int(byte(q.Kind)) }) {
			continue
		}
		wantNoList(t, written(ms))
		wantNoList(t, append(written(ms), 0, 0, 0, 0))
	}
	for _, o := range orders(five()) {
		if _, n, ok := Read(written(o)); ok != slices.Equal(o, five()) || ok != (n > 0) {
			t.Errorf("Read(%q) is %v", written(o), ok)
		}
	}
}

// P8.4: every byte in the place of a kind.
func TestReadOfEveryKind(t *testing.T) {
	for c := range 256 {
		b := []byte{1, byte(c), 1, 'a', 1, 'x'}
		if c < 1 || c > 4 {
			wantNoList(t, b)
			continue
		}
		if ms, n, ok := Read(b); !slices.Equal(ms, []api.Matcher{m(c, "a", "x")}) || n != len(b) || !ok {
			t.Errorf("Read(%q) = %s, %d, %v", b, show(ms...), n, ok)
		}
	}
}

// P8.4: values of just the most bytes, and of one more, under each kind.
func TestReadOfValuesAtTheirLimits(t *testing.T) {
	for _, q := range []struct {
		kinds []int
		most  int
	}{
		{equals, 24}, {likes, 40},
	} {
		for _, kind := range q.kinds {
			for n := range 60 {
				ms := []api.Matcher{m(kind, "a", many("x", n))}
				if n > q.most {
					wantNoList(t, written(ms))
					continue
				}
				if got, size, ok := Read(written(ms)); !slices.Equal(got, ms) || size != 5+n || !ok {
					t.Errorf("Read(%q) = %s, %d, %v", written(ms), show(got...), size, ok)
				}
			}
		}
	}
}

// P8.4: numbers in a longer form, and counts and lengths that are too great for what follows, or for an int.
func TestReadRefusesWrongNumbers(t *testing.T) {
	for _, s := range []string{
		"\x80\x00", "\x81\x00\x01\x01a\x01x", "\x01\x01\x81\x00a\x01x", "\x01\x01\x01a\x81\x00x", "\x01\x01\x01a\x80\x00",
		"\x01\x81\x00\x01a\x01x", "\x01", "\x01\x01", "\x02\x01\x01a\x01x", "\x06", "\x01\x01\x00\x01x",
		"\x01\x01\x02a\x01x", "\x01\x01\x01a\x02x", "\x01\x01\x0d" + longName + "m\x01x",
	} {
		wantNoList(t, []byte(s))
	}
	for _, n := range []uint64{6, 127, 128, 1<<32 + 1, math.MaxInt64, 1 << 63, math.MaxUint64} {
		great := string(vint.Put(n))
		wantNoList(t, []byte(great+"\x01\x01a\x01x"))
		wantNoList(t, []byte("\x01\x01"+great+"a\x01x"))
		wantNoList(t, []byte("\x01\x01\x01a"+great+"x"))
	}
	// Six matchers that are in order, and well written.
	wantNoList(t, written(rising()[:6]))
}

// P8.4: with any one byte of a list's bytes changed, Read finds exactly what Bytes would write.
func TestReadOfNearlyAList(t *testing.T) {
	for _, ms := range [][]api.Matcher{nil, rising()[:1], rising()[3:8], rising()[8:13], rising()[14:19], five(), most()[:1]} {
		form := Bytes(ms)
		for i := range form {
			for c := range 256 {
				b := bytes.Clone(form)
				b[i] = byte(c)
				got, n, ok := Read(b)
				if ok && (!List(got) || !bytes.Equal(Bytes(got), b[:n])) {
					t.Fatalf("Read(%q) = %s, %d", b, show(got...), n)
				}
				if !ok && (n != 0 || len(got) != 0) {
					t.Fatalf("Read(%q) = %s, %d beside false", b, show(got...), n)
				}
				if ok != beginsWithAList(b) {
					t.Fatalf("Read(%q) is %v", b, ok)
				}
			}
		}
	}
}

// beginsWithAList decides byte by byte, without vint and the package's reader, whether a list is at the beginning of b: its counts and lengths are single bytes.
func beginsWithAList(b []byte) bool {
	count := int(b[0])
	b = b[1:]
	var last string
	for range count {
		if len(b) == 0 {
			return false
		}
		kind := b[0]
		b = b[1:]
		var texts [2]string
		for i := range texts {
			if len(b) == 0 || b[0] >= 128 || len(b) < 1+int(b[0]) {
				return false
			}
			texts[i] = string(b[1 : 1+int(b[0])])
			b = b[1+int(b[0]):]
		}
		// No name has a byte 0, so that this text has the order of matchers.
		text := texts[0] + "\x00" + string([]byte{kind}) + texts[1]
		if !labels.Name(texts[0]) || text <= last || !Is(m(int(kind), texts[0], texts[1])) {
			return false
		}
		last = text
	}
	return count <= 5
}

// R2, R5: what is handed in stays as it is, its spare capacity included, and what stands there is not read.
func TestNothingIsTouched(t *testing.T) {
	room := append(five(), m(api.MUnequal, "e", "1"), api.Matcher{Kind: 9})
	before := slices.Clone(room)
	l := list("a", "1", "b", "1", "c", "1", "d", "1", "e", "1", "z", "behind")
	asGiven := slices.Clone(l)
	for n := range 6 {
		ms := room[:n]
		if !List(ms) || AnyLarge(ms) || !All(ms, l[:5]) || !bytes.Equal(Bytes(ms), written(five()[:n])) {
			t.Errorf("%d matchers", n)
		}
	}
	if Holds(m(api.MEqual, "z", "behind"), l[:5]) || !Holds(m(api.MEqual, "z", ""), l[:5]) {
		t.Error("a spare label was read")
	}
	if !slices.Equal(room, before) || !slices.Equal(l, asGiven) {
		t.Errorf("the matchers are now %s, the labels %q", show(room...), l)
	}
}

// R2: bytes and lists are new memory, their spare capacity included.
func TestNothingIsShared(t *testing.T) {
	for _, want := range lists() {
		b, other := Bytes(want), Bytes(want)
		form := string(b)
		ms, n, ok := Read(b)
		again, _, _ := Read(b)
		if string(b) != form {
			t.Errorf("Read changed its bytes to %q", b)
		}
		for i := range b[:cap(b)] {
			b[:cap(b)][i] = '!'
		}
		for i := range again[:cap(again)] {
			again[:cap(again)][i] = api.Matcher{Kind: 9}
		}
		if !slices.Equal(ms, want) || n != len(form) || !ok || string(other) != form {
			t.Errorf("after its bytes were changed, Read's list is %s, and other bytes are %q", show(ms...), other)
		}
	}
}
