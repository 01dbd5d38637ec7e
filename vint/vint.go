// Package vint writes numbers and strings as bytes, each in one form only, and reads them back: chapter 1 of the document.
package vint

const (
	groupBits = 7
	more      = 1 << groupBits // set in every byte of a number except the last
	mostBytes = 10             // 64 bits in groups of seven
	wordBytes = 8
)

// Put returns n in groups of seven bits, the least significant group first.
func Put(n uint64) []byte {
	var b []byte
	for n >= more {
		b = append(b, byte(n%more)+more)
		n >>= groupBits
	}
	return append(b, byte(n))
}

// Get returns the number whose Put is at the beginning of b, and the number of its bytes.
func Get(b []byte) (uint64, int, bool) {
	var n uint64
	for i := 0; i < len(b) && i < mostBytes; i++ {
		n |= uint64(b[i]%more) << (groupBits * i)
		if b[i] < more {
			if !isShortest(b[i], i) || overflows(b[i], i) {
				return 0, 0, false
			}
			return n, i + 1, true
		}
	}
	return 0, 0, false
}

// isShortest tells whether a number may end with the byte last at place i: a 0 there would say nothing, and would give the number a second form.
func isShortest(last byte, i int) bool {
	return last != 0 || i == 0
}

// overflows tells whether the byte last at place i holds bits beyond the 64th: nine groups are 63 bits, so the tenth has room for one.
func overflows(last byte, i int) bool {
	return i == mostBytes-1 && last > 1
}

// PutText returns Put of the length of s, followed by its bytes.
func PutText(s string) []byte {
	return append(Put(uint64(len(s))), s...)
}

// GetText returns the string whose PutText is at the beginning of b, if it has at most most bytes, and the number of bytes of that PutText.
func GetText(b []byte, most int) (string, int, bool) {
	n, start, ok := Get(b)
	if !ok || most < 0 {
		return "", 0, false
	}
	// The length is compared before it becomes an int: as an int it could be negative.
	if n > uint64(most) || n > uint64(len(b)-start) {
		return "", 0, false
	}
	end := start + int(n)
	return string(b[start:end]), end, true
}

// PutWord returns the eight bytes of w, the most significant one first.
func PutWord(w uint64) []byte {
	b := make([]byte, wordBytes)
	for i := wordBytes - 1; i >= 0; i-- {
		b[i] = byte(w)
		w >>= 8
	}
	return b
}

// GetWord returns the word whose PutWord is the first eight bytes of b.
func GetWord(b []byte) (uint64, bool) {
	if len(b) < wordBytes {
		return 0, false
	}
	var w uint64
	for _, c := range b[:wordBytes] {
		w = w<<8 | uint64(c)
	}
	return w, true
}
