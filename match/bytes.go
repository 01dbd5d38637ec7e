package match

import (
	"sordine/api"
	"sordine/vint"
)

// mostValue is the most bytes that a matcher of any kind has in its Value.
const mostValue = max(api.MaxValue, api.MaxPattern)

// Bytes returns the bytes of the list ms: the number of its matchers, and the kind, the name and the value of each.
func Bytes(ms []api.Matcher) []byte {
	if !List(ms) {
		return nil
	}
	b := vint.Put(uint64(len(ms)))
	for _, m := range ms {
		b = append(b, byte(m.Kind))
		b = append(b, vint.PutText(m.Name)...)
		b = append(b, vint.PutText(m.Value)...)
	}
	return b
}

// Read returns the list whose Bytes are at the beginning of b, and the number of those bytes.
func Read(b []byte) ([]api.Matcher, int, bool) {
	count, at, ok := vint.Get(b)
	if !ok || count > api.MaxMatchers {
		return nil, 0, false
	}
	var ms []api.Matcher
	for range count {
		m, size, ok := readMatcher(b[at:])
		if !ok {
			return nil, 0, false
		}
		ms = append(ms, m)
		at += size
	}
	if !List(ms) {
		return nil, 0, false
	}
	return ms, at, true
}

// readMatcher returns the matcher whose kind, name and value are at the beginning of b, and the number of their bytes; it does not check whether the matcher is valid.
func readMatcher(b []byte) (api.Matcher, int, bool) {
	if len(b) == 0 {
		return api.Matcher{}, 0, false
	}
	at := 1
	name, size, ok := vint.GetText(b[at:], api.MaxName)
	if !ok {
		return api.Matcher{}, 0, false
	}
	at += size
	value, size, ok := vint.GetText(b[at:], mostValue)
	if !ok {
		return api.Matcher{}, 0, false
	}
	return api.Matcher{Kind: int(b[0]), Name: name, Value: value}, at + size, true
}
