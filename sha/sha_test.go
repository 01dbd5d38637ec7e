package sha

import (
	"bytes"
	"crypto/sha256"
	"encoding/binary"
	"encoding/hex"
	"math/big"
	"strings"
	"testing"
)

// message returns n bytes of which many are 0 and 128, the bytes of the padding.
func message(n int) []byte {
	b := make([]byte, n)
	for i := range b {
		b[i] = []byte{128, 0, byte(i), byte(i*i + i/7), 255}[(i+n)%5]
	}
	return b
}

// primes returns the first n primes.
func primes(n int) []int64 {
	var all []int64
	for p := int64(2); len(all) < n; p++ {
		if big.NewInt(p).ProbablyPrime(20) {
			all = append(all, p)
		}
	}
	return all
}

// rootBits returns the first 32 bits of the fractional part of the root of p, of the second or the third degree.
func rootBits(p int64, degree int64) uint32 {
	scaled := new(big.Int).Lsh(big.NewInt(p), uint(32*degree))
	root := new(big.Int)
	for bit := 40; bit >= 0; bit-- {
		root.SetBit(root, bit, 1)
		if new(big.Int).Exp(root, big.NewInt(degree), nil).Cmp(scaled) > 0 {
			root.SetBit(root, bit, 0)
		}
	}
	return uint32(root.Uint64())
}

// P2.1
func TestPadOfShortTexts(t *testing.T) {
	for _, q := range []struct {
		text, behind string
		length       int
	}{
		{"", "\x00\x00\x00\x00\x00\x00\x00\x00", 64},
		{"abc", "\x00\x00\x00\x00\x00\x00\x00\x18", 64},
		{strings.Repeat("x", 32), "\x00\x00\x00\x00\x00\x00\x01\x00", 64},
	} {
		want := q.text + "\x80" + strings.Repeat("\x00", q.length-len(q.text)-9) + q.behind
		if p := Pad([]byte(q.text)); string(p) != want {
			t.Errorf("Pad(%q) = % x", q.text, p)
		}
	}
	if !bytes.Equal(Pad(nil), Pad([]byte{})) {
		t.Error("nil and empty differ")
	}
}

// P2.1: the lengths around a multiple of 64, and around the last one for which mark and length still fit.
func TestPadLengths(t *testing.T) {
	for n, want := range map[int]int{
		0: 64, 1: 64, 54: 64, 55: 64, 56: 128, 57: 128, 63: 128, 64: 128, 65: 128,
		118: 128, 119: 128, 120: 192, 127: 192, 128: 192, 129: 192, 183: 192, 184: 256, 1 << 20: 1<<20 + 64,
	} {
		if p := Pad(message(n)); len(p) != want {
			t.Errorf("Pad of %d bytes has %d bytes, want %d", n, len(p), want)
		}
	}
}

// P2.1
func TestPadParts(t *testing.T) {
	for n := range 400 {
		b := message(n)
		p := Pad(b)
		end := len(p) - 8
		if !bytes.Equal(p[:n], b) || p[n] != 128 || binary.BigEndian.Uint64(p[end:]) != 8*uint64(n) {
			t.Fatalf("Pad of %d bytes = % x", n, p)
		}
		zeros := p[n+1 : end]
		if len(p)%64 != 0 || len(zeros) > 63 || strings.Trim(string(zeros), "\x00") != "" {
			t.Fatalf("Pad of %d bytes: % x between mark and length", n, zeros)
		}
	}
}

// P2.1: a length whose bits need more than one, two and three bytes.
func TestPadWritesTheWholeLength(t *testing.T) {
	for _, n := range []int{31, 32, 8191, 8192, 1<<21 - 1, 1 << 21, 1<<21 + 77} {
		p := Pad(make([]byte, n))
		if got := binary.BigEndian.Uint64(p[len(p)-8:]); got != 8*uint64(n) {
			t.Errorf("Pad of %d bytes ends with %d", n, got)
		}
	}
}

// P2.2: the words of FIPS 180-4 for the one block of abc.
func TestRoundOfOneBlock(t *testing.T) {
	var block [64]byte
	copy(block[:], "abc\x80")
	block[63] = 24
	start := [8]uint32{0x6a09e667, 0xbb67ae85, 0x3c6ef372, 0xa54ff53a, 0x510e527f, 0x9b05688c, 0x1f83d9ab, 0x5be0cd19}
	want := [8]uint32{0xba7816bf, 0x8f01cfea, 0x414140de, 0x5dae2223, 0xb00361a3, 0x96177a9c, 0xb410ff61, 0xf20015ad}
	if got := Round(start, block); got != want {
		t.Errorf("%08x", got)
	}
}

// libraryRound does one block with the state h by the library, whose state is set and read by its stored form.
func libraryRound(t *testing.T, h [8]uint32, block [64]byte) [8]uint32 {
	t.Helper()
	type stored interface {
		MarshalBinary() ([]byte, error)
		UnmarshalBinary([]byte) error
	}
	hash := sha256.New()
	form, err := hash.(stored).MarshalBinary()
	if err != nil {
		t.Fatal(err)
	}
	for i, w := range h {
		binary.BigEndian.PutUint32(form[4+4*i:], w)
	}
	if err := hash.(stored).UnmarshalBinary(form); err != nil {
		t.Fatal(err)
	}
	hash.Write(block[:])
	form, err = hash.(stored).MarshalBinary()
	if err != nil {
		t.Fatal(err)
	}
	var s [8]uint32
	for i := range s {
		s[i] = binary.BigEndian.Uint32(form[4+4*i:])
	}
	return s
}

// P2.2: states and blocks of any kind, and not only those that a digest begins with.
func TestRoundFromAnyState(t *testing.T) {
	states := [][8]uint32{
		{},
		{0: 1}, {1: 1}, {2: 1}, {3: 1}, {4: 1}, {5: 1}, {6: 1}, {7: 1},
		{1 << 31, 1<<32 - 1, 1, 2, 3, 1 << 31, 1<<32 - 1, 7},
		{1<<32 - 1, 1<<32 - 1, 1<<32 - 1, 1<<32 - 1, 1<<32 - 1, 1<<32 - 1, 1<<32 - 1, 1<<32 - 1},
	}
	blocks := [][64]byte{{}, {0: 128}, {63: 1}, [64]byte(bytes.Repeat([]byte{255}, 64)), [64]byte(message(64)), [64]byte(message(67))}
	for i := range 64 {
		var block [64]byte
		block[i] = 1
		blocks = append(blocks, block)
	}
	for _, h := range states {
		for _, block := range blocks {
			if got, want := Round(h, block), libraryRound(t, h, block); got != want {
				t.Fatalf("Round(%08x, % x) = %08x, want %08x", h, block, got, want)
			}
		}
	}
}

// P2.2
func TestCubeRoots(t *testing.T) {
	for i, p := range primes(64) {
		if want := rootBits(p, 3); cubeRoots[i] != want {
			t.Errorf("k[%d] = %08x, want %08x", i, cubeRoots[i], want)
		}
	}
}

// P2.3
func TestSquareRoots(t *testing.T) {
	first := squareRoots()
	for i, p := range primes(8) {
		if want := rootBits(p, 2); first[i] != want {
			t.Errorf("word %d is %08x, want %08x", i, first[i], want)
		}
	}
}

// P2.3, and the chapter's section 'Runs'.
func TestOfKnownTexts(t *testing.T) {
	for text, want := range map[string]string{
		"":    "e3b0c44298fc1c149afbf4c8996fb92427ae41e4649b934ca495991b7852b855",
		"abc": "ba7816bf8f01cfea414140de5dae2223b00361a396177a9cb410ff61f20015ad",
		"abcdbcdecdefdefgefghfghighijhijkijkljklmklmnlmnomnopnopq":                                                         "248d6a61d20638b8e5c026930c3e6039a33ce45964ff2167f6ecedd419db06c1",
		"abcdefghbcdefghicdefghijdefghijkefghijklfghijklmghijklmnhijklmnoijklmnopjklmnopqklmnopqrlmnopqrsmnopqrstnopqrstu": "cf5b16a778af8380036ce59e7b0492370b249b11e8f07a51afac45037afee9d1",
		strings.Repeat("a", 1000000): "cdc76e5c9914fb9281a1c7e284d73e67f1809a48a497200e046d39ccc7112cd0",
	} {
		d := Of([]byte(text))
		if got := hex.EncodeToString(d[:]); got != want {
			t.Errorf("Of %d bytes = %s, want %s", len(text), got, want)
		}
	}
	d := Of([]byte("abc"))
	if [4]byte(d[:4]) != [4]byte{186, 120, 22, 191} || [4]byte(d[28:]) != [4]byte{242, 0, 21, 173} {
		t.Errorf("Of(abc) = %v", d)
	}
	if Of(nil) != Of([]byte{}) {
		t.Error("nil and empty differ")
	}
}

// P2.3: every length up to several blocks.
func TestOfEveryLength(t *testing.T) {
	for n := range 600 {
		if b := message(n); Of(b) != sha256.Sum256(b) {
			t.Errorf("Of %d bytes = %x", n, Of(b))
		}
	}
}

// P2.3
func TestOfDependsOnEveryByte(t *testing.T) {
	b := message(130)
	whole := Of(b)
	for i := range b {
		b[i] ^= 1
		if Of(b) == whole {
			t.Errorf("byte %d plays no part", i)
		}
		b[i] ^= 1
	}
}

// P2.3: the same bytes have the same digest, whatever was asked between.
func TestOfKeepsNothing(t *testing.T) {
	first := Of([]byte("abc"))
	Of(message(200))
	Round([8]uint32{1}, [64]byte{2})
	if Of([]byte("abc")) != first {
		t.Error("a second digest differs")
	}
}

// R2, R5: the bytes behind the length of the argument are neither read nor written, and the result is new memory.
func TestArgumentsStayAsTheyAre(t *testing.T) {
	for n := range 130 {
		room := bytes.Repeat([]byte{77}, 300)
		p := Pad(room[:n])
		d := Of(room[:n])
		for i := range p {
			p[i] = 1
		}
		spare := p[len(p):cap(p)]
		for i := range spare {
			spare[i] = 1
		}
		if !bytes.Equal(room, bytes.Repeat([]byte{77}, 300)) {
			t.Fatalf("%d bytes: the argument was changed", n)
		}
		if d != sha256.Sum256(bytes.Repeat([]byte{77}, n)) {
			t.Fatalf("%d bytes: the spare capacity was read", n)
		}
	}
}
