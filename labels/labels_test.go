package labels

import (
	"bytes"
	"math"
	"slices"
	"strings"
	"testing"

	"sordine/api"
	"sordine/vint"
)

const (
	longName  = "abcdefghijkl"
	longValue = "0123456789abcdefghijklmn"
)

// list returns the labels with the names and values of pairs, one behind the other.
func list(pairs ...string) []api.Label {
	var l []api.Label
	for i := 0; i < len(pairs); i += 2 {
		l = append(l, api.Label{Name: pairs[i], Value: pairs[i+1]})
	}
	return l
}

// most returns a label set with as many labels, and as many bytes in each, as may be.
func most() []api.Label {
	var l []api.Label
	for i := range api.MaxLabels {
		l = append(l, api.Label{Name: longName[:11] + string(rune('a'+i)), Value: longValue})
	}
	return l
}

// sets returns label sets of every count of labels.
func sets() [][]api.Label {
	six := list("A", "1", "Z", "x", "_", "\x00", "a", "a", "aa", longValue, "b", "\xff\x80")
	all := [][]api.Label{
		list("a", "1"),
		list(longName, longValue),
		list("_", strings.Repeat("\x00", api.MaxValue)),
		list("Z9", "\x01b\x01", "a_", "\xc3\xa9"),
		list("a1", "x", "a2", "x", "a_", "x"),
		most(),
	}
	for n := 1; n <= len(six); n++ {
		all = append(all, six[:n])
	}
	return all
}

// notSets returns lists that are no label sets, and that no order makes one.
func notSets() [][]api.Label {
	return [][]api.Label{
		nil,
		{},
		list("", "1"),
		list("a", ""),
		list("", ""),
		list(longName+"m", "1"),
		list("a", longValue+"o"),
		list("1a", "1"),
		list("a-", "1"),
		list("a", "1", "a", "1"),
		list("a", "1", "a", "2"),
		list("a", "2", "b", "1", "a", "1"),
		list("a", "1", "b", "1", "b", "1"),
		list("a", "1", "b", ""),
		list("a", "1", "b c", "1"),
		list("", "1", "a", "1"),
		append(most(), api.Label{Name: "z", Value: "1"}),
		append(list("A", "1"), most()...),
		slices.Repeat(list("a", "1"), 1000),
	}
}

// orders returns the labels of l in every order.
func orders(l []api.Label) [][]api.Label {
	if len(l) == 0 {
		return [][]api.Label{nil}
	}
	var all [][]api.Label
	for i := range l {
		rest := slices.Delete(slices.Clone(l), i, i+1)
		for _, o := range orders(rest) {
			all = append(all, append([]api.Label{l[i]}, o...))
		}
	}
	return all
}

// P4.1
func TestNameOfEveryByte(t *testing.T) {
	const letters = "abcdefghijklmnopqrstuvwxyzABCDEFGHIJKLMNOPQRSTUVWXYZ_"
	for c := range 256 {
		s := string([]byte{byte(c)})
		isLetter := strings.Contains(letters, s)
		isDigit := strings.Contains("0123456789", s)
		if Name(s) != isLetter {
			t.Errorf("Name(%q) = %v", s, !isLetter)
		}
		if Name(s+"a") != isLetter {
			t.Errorf("Name(%q) = %v", s+"a", !isLetter)
		}
		for i := 1; i < api.MaxName; i++ {
			long := longName[:i] + s + longName[i+1:]
			if want := isLetter || isDigit; Name(long) != want || Name(longName[:i]+s) != want {
				t.Errorf("Name(%q) is not %v", long, want)
			}
		}
	}
}

// P4.1
func TestNameOfEveryLength(t *testing.T) {
	for n := range 300 {
		for _, c := range []string{"a", "Z", "_"} {
			s := strings.Repeat(c, n)
			if want := n >= 1 && n <= 12; Name(s) != want {
				t.Errorf("Name(%q) is not %v", s, want)
			}
		}
	}
	for _, s := range []string{"\u00e9", "a\u0301", "a\u0660", "a b", "a\n", "9", "0_", "a."} {
		if Name(s) {
			t.Errorf("Name(%q)", s)
		}
	}
}

// P4.1
func TestValueOfEveryLengthAndByte(t *testing.T) {
	for c := range 256 {
		for n := range 300 {
			s := strings.Repeat(string([]byte{byte(c)}), n)
			if want := n >= 1 && n <= 24; Value(s) != want {
				t.Fatalf("Value(%q) is not %v", s, want)
			}
		}
	}
	// Bytes are counted, and not runes.
	if s := strings.Repeat("\u00e9", 12); !Value(s) || Value(s+"x") {
		t.Errorf("Value(%q)", s)
	}
}

// P4.1
func TestIsOfKnownLists(t *testing.T) {
	for _, l := range sets() {
		if !Is(l) {
			t.Errorf("Is(%q) = false", l)
		}
	}
	for _, l := range notSets() {
		if Is(l) {
			t.Errorf("Is(%q) = true", l)
		}
	}
}

// P4.1: one order alone makes a set, and Make finds it from each.
func TestMakeFromEveryOrder(t *testing.T) {
	for _, l := range sets() {
		for _, o := range orders(l) {
			if Is(o) != slices.Equal(o, l) {
				t.Fatalf("Is(%q) = %v", o, Is(o))
			}
			set, ok := Make(o)
			if !ok || !slices.Equal(set, l) {
				t.Fatalf("Make(%q) = %q, %v", o, set, ok)
			}
		}
	}
}

// P4.1
func TestMakeRefusesEveryOrderOfAWrongList(t *testing.T) {
	for _, l := range notSets() {
		all := [][]api.Label{l}
		if len(l) < 6 {
			all = orders(l)
		}
		for _, o := range all {
			if set, ok := Make(o); ok || len(set) != 0 {
				t.Fatalf("Make(%q) = %q, %v", o, set, ok)
			}
			if Is(o) {
				t.Fatalf("Is(%q)", o)
			}
		}
	}
}

// P4.1: a name that occurs twice at any two places, with one value or with two.
func TestMakeRefusesANameTwice(t *testing.T) {
	for n := 2; n <= api.MaxLabels; n++ {
		for i := range n {
			for j := range i {
				l := most()[:n]
				l[i].Name = l[j].Name
				if set, ok := Make(l); ok || len(set) != 0 {
					t.Errorf("Make(%q) = %q, %v", l, set, ok)
				}
				l[i].Value = "other"
				if set, ok := Make(l); ok || len(set) != 0 {
					t.Errorf("Make(%q) = %q, %v", l, set, ok)
				}
			}
		}
	}
}

// P4.1: one wrong label at any place of a set.
func TestOneWrongLabelIsEnough(t *testing.T) {
	for i := range api.MaxLabels {
		for _, wrong := range []func(*api.Label){
			func(l *api.Label) { l.Name = "" },
			func(l *api.Label) { l.Name += "x" },
			func(l *api.Label) { l.Name = l.Name[:11] + "\x00" },
			func(l *api.Label) { l.Value = "" },
			func(l *api.Label) { l.Value += "x" },
		} {
			l := most()
			wrong(&l[i])
			if Is(l) {
				t.Errorf("Is(%q)", l)
			}
			if set, ok := Make(l); ok || len(set) != 0 {
				t.Errorf("Make(%q) = %q, %v", l, set, ok)
			}
			if b := Bytes(l); len(b) != 0 {
				t.Errorf("Bytes(%q) = % x", l, b)
			}
		}
	}
}

// P4.2
func TestGetReturnsTheFirst(t *testing.T) {
	l := list("b", "1", "a", "2", "b", "3", "", "4", "c", "", "c", "5", "not a name", longValue+longValue)
	for name, want := range map[string]string{
		"b": "1", "a": "2", "": "4", "c": "", "not a name": longValue + longValue,
		"d": "", "B": "", "bb": "", "b\x00": "", "not a": "",
	} {
		if got := Get(l, name); got != want {
			t.Errorf("Get(%q) = %q, want %q", name, got, want)
		}
	}
	for _, none := range [][]api.Label{nil, {}, l[:0]} {
		if Get(none, "") != "" || Get(none, "b") != "" {
			t.Error("nothing has a value")
		}
	}
}

// P4.2
func TestGetOfEverySet(t *testing.T) {
	for _, l := range sets() {
		for _, label := range l {
			if got := Get(l, label.Name); got != label.Value {
				t.Errorf("Get(%q, %q) = %q", l, label.Name, got)
			}
			if got := Get(l, label.Name+"-"); got != "" {
				t.Errorf("Get(%q, %q) = %q", l, label.Name+"-", got)
			}
		}
	}
}

// P4.3
func TestBytesOfKnownSets(t *testing.T) {
	for _, q := range []struct {
		l    []api.Label
		form string
	}{
		{list("a", "1"), "\x01\x01a\x011"},
		{list("a", "xy", "b", "\x00"), "\x02\x01a\x02xy\x01b\x01\x00"},
		{list("Z9_", "\xff\x80", "z", " "), "\x02\x03Z9_\x02\xff\x80\x01z\x01 "},
		{list(longName, longValue), "\x01\x0c" + longName + "\x18" + longValue},
	} {
		if b := Bytes(q.l); string(b) != q.form {
			t.Errorf("Bytes(%q) = %q", q.l, b)
		}
		if l, n, ok := Read([]byte(q.form)); !slices.Equal(l, q.l) || n != len(q.form) || !ok {
			t.Errorf("Read(%q) = %q, %d, %v", q.form, l, n, ok)
		}
	}
}

// P4.3
func TestBytesOfNoSetAreNone(t *testing.T) {
	for _, l := range append(notSets(), list("b", "1", "a", "1"), list("a", "1", "c", "1", "b", "1")) {
		if b := Bytes(l); len(b) != 0 {
			t.Errorf("Bytes(%q) = % x", l, b)
		}
	}
}

// P4.3
func TestReadReadsWhatBytesWrote(t *testing.T) {
	for _, want := range sets() {
		form := string(Bytes(want))
		for _, rest := range []string{"", "\x00", "\x01", "\xff\xff", "\x01z\x01z", form} {
			l, n, ok := Read([]byte(form + rest))
			if !slices.Equal(l, want) || n != len(form) || !ok {
				t.Errorf("Read(%q) = %q, %d, %v", form+rest, l, n, ok)
			}
		}
	}
}

// P4.3
func TestReadRefusesACutSet(t *testing.T) {
	wantNoSet(t, nil)
	for _, l := range sets() {
		form := Bytes(l)
		for cut := range form {
			// The rest stands in the spare capacity, where it does not count.
			wantNoSet(t, form[:cut])
			wantNoSet(t, form[:cut:cut])
		}
	}
}

// P4.3: lists that are no label sets, written as if they were.
func TestReadRefusesWhatIsNoSet(t *testing.T) {
	for _, l := range append(notSets(), list("b", "1", "a", "1"), list("a", "1", "c", "1", "b", "1"), list("a", "1", "B", "1")) {
		wantNoSet(t, written(l))
		wantNoSet(t, append(written(l), 0, 0, 0, 0))
	}
	for _, l := range sets() {
		if !bytes.Equal(written(l), Bytes(l)) {
			t.Errorf("Bytes(%q) = % x", l, Bytes(l))
		}
	}
}

// P4.3: numbers in a longer form, and counts and lengths that are too great for what follows, or for an int.
func TestReadRefusesWrongNumbers(t *testing.T) {
	for _, s := range []string{
		"\x00", "\x00\x01a\x01x", "\x07", "\x01", "\x02\x01a\x01x",
		"\x81\x00\x01a\x01x", "\x01\x81\x00a\x01x", "\x01\x01a\x81\x00x",
		"\x01\x00\x01x", "\x01\x01a\x00", "\x01\x02a\x01x", "\x01\x01a\x02x",
	} {
		wantNoSet(t, []byte(s))
	}
	for _, n := range []uint64{7, 127, 128, 1<<32 + 1, math.MaxInt64, 1 << 63, math.MaxUint64} {
		great := string(vint.Put(n))
		wantNoSet(t, []byte(great+"\x01a\x01x"))
		wantNoSet(t, []byte("\x01"+great+"a\x01x"))
		wantNoSet(t, []byte("\x01\x01a"+great+"x"))
	}
}

// P4.3: with any one byte of a set's bytes changed, Read finds exactly what Bytes would write.
func TestReadOfNearlyASet(t *testing.T) {
	for _, l := range sets() {
		form := Bytes(l)
		for i := range form {
			for c := range 256 {
				b := bytes.Clone(form)
				b[i] = byte(c)
				got, n, ok := Read(b)
				if ok && (!Is(got) || !bytes.Equal(Bytes(got), b[:n])) {
					t.Fatalf("Read(%q) = %q, %d", b, got, n)
				}
				if !ok && (n != 0 || len(got) != 0) {
					t.Fatalf("Read(%q) = %q, %d beside false", b, got, n)
				}
				if ok != beginsWithASet(b) {
					t.Fatalf("Read(%q) is %v", b, ok)
				}
			}
		}
	}
}

// P4.4, and the chapter's section 'Runs'.
func TestProjectOfKnownLists(t *testing.T) {
	long := strings.Repeat("x", 300)
	for _, q := range []struct {
		l     []api.Label
		names []string
		want  string
	}{
		{list("a", "1"), []string{"a", "b"}, "\x01\x31\x00"},
		{list("a", "1"), []string{"b", "a"}, "\x00\x011"},
		{list("a", "1"), nil, ""},
		{list("a", "1"), []string{}, ""},
		{nil, nil, ""},
		{nil, []string{"a", "", "a"}, "\x00\x00\x00"},
		{list("a", "xy", "b", "z"), []string{"b", "a", "b"}, "\x01z\x02xy\x01z"},
		{list("b", "1", "a", "2", "b", "3"), []string{"a", "c", "b", "a"}, "\x012\x00\x011\x012"},
		{list("", "1"), []string{""}, "\x011"},
		{list("a", ""), []string{"a"}, "\x00"},
		{list("a", long), []string{"a"}, "\xac\x02" + long},
		{list("a", "\x00\x01", "b", "\x01"), []string{"a", "b"}, "\x02\x00\x01\x01\x01"},
	} {
		if got := Project(q.l, q.names); got != q.want {
			t.Errorf("Project(%q, %q) = %q, want %q", q.l, q.names, got, q.want)
		}
	}
}

// P4.4: values that would make one string if nothing stood between them.
func TestProjectTellsValuesApart(t *testing.T) {
	names := []string{"a", "b"}
	texts := []string{"", "\x00", "\x01", "\x01\x00", "\x00\x01", "x", "xx", "\x01x", "x\x01", "x\x01x"}
	seen := map[string]bool{}
	for _, a := range texts {
		for _, b := range texts {
			s := Project(list("a", a, "b", b), names)
			if seen[s] {
				t.Errorf("%q and %q: %q was there already", a, b, s)
			}
			seen[s] = true
		}
	}
}

// R2, R5: what is handed in stays as it is, its spare capacity included, and answers are new memory.
func TestNothingIsShared(t *testing.T) {
	room := list("b", "1", "a", "2", "c", "3", "behind", "4")
	before := slices.Clone(room)
	for n := range room {
		l := room[:n]
		first, _ := Make(l)
		want := slices.Clone(first)
		second, _ := Make(l)
		for i := range second[:cap(second)] {
			second[:cap(second)][i].Name = "spoilt"
		}
		Is(l)
		Bytes(l)
		Project(l, []string{"a", "behind"})
		if !slices.Equal(room, before) || !slices.Equal(first, want) {
			t.Fatalf("%d labels: %q, and the set %q", n, room, first)
		}
		if Get(l, "behind") != "" || Project(l, []string{"behind"}) != "\x00" {
			t.Fatalf("%d labels: the spare capacity was read", n)
		}
	}
}

// R2: the same for names and for bytes.
func TestBytesAreNotShared(t *testing.T) {
	names := []string{"a", "c", "b"}
	Project(list("a", "1"), names[:1])
	if !slices.Equal(names, []string{"a", "c", "b"}) {
		t.Errorf("the names are %q", names)
	}
	set := most()
	b := Bytes(set)
	form := string(b)
	l, n, ok := Read(b[:len(b):cap(b)])
	if string(b) != form {
		t.Errorf("Read changed its bytes to %q", b)
	}
	other := Bytes(set)
	for _, each := range [][]byte{b, other} {
		for i := range each[:cap(each)] {
			each[:cap(each)][i] = '!'
		}
	}
	if !slices.Equal(l, set) || n != len(form) || !ok || !slices.Equal(set, most()) || string(Bytes(set)) != form {
		t.Errorf("after its bytes were changed, Read's set is %q", l)
	}
}

// wantNoSet checks that no label set's bytes are at the beginning of b.
func wantNoSet(t *testing.T, b []byte) {
	t.Helper()
	if l, n, ok := Read(b); len(l) != 0 || n != 0 || ok {
		t.Errorf("Read(%q) = %q, %d, %v, want none", b, l, n, ok)
	}
}

// written returns l as Bytes would write it, whether it is a label set or not.
func written(l []api.Label) []byte {
	b := vint.Put(uint64(len(l)))
	for _, label := range l {
		b = append(b, vint.PutText(label.Name)...)
		b = append(b, vint.PutText(label.Value)...)
	}
	return b
}

// beginsWithASet decides byte by byte, without vint and the package, whether a label set is at the beginning of b: its counts and lengths are single bytes.
func beginsWithASet(b []byte) bool {
	count := int(b[0])
	b = b[1:]
	last := ""
	for range count {
		for _, limit := range []int{12, 24} {
			if len(b) == 0 || b[0] == 0 || int(b[0]) > limit || len(b) < 1+int(b[0]) {
				return false
			}
			text := string(b[1 : 1+int(b[0])])
			b = b[1+int(b[0]):]
			if limit == 24 {
				continue
			}
			if text <= last || strings.Trim(text, "abcdefghijklmnopqrstuvwxyzABCDEFGHIJKLMNOPQRSTUVWXYZ_0123456789") != "" || text[0] <= '9' {
				return false
			}
			last = text
		}
	}
	return count >= 1 && count <= 6
}
