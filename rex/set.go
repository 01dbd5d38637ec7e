package rex

// has reports whether c is in set.
func has(set [4]uint64, c byte) bool {
	return set[c/64]>>(c%64)&1 == 1
}

// span returns the set of the bytes from low to high.
func span(low, high byte) [4]uint64 {
	var set [4]uint64
	// An int counts, because a byte would never go beyond 255.
	for c := int(low); c <= int(high); c++ {
		set[c/64] |= 1 << (c % 64)
	}
	return set
}

// union returns the set of the bytes that are in a or in b.
func union(a, b [4]uint64) [4]uint64 {
	for i := range a {
		a[i] |= b[i]
	}
	return a
}

// others returns the set of the bytes that are not in set.
func others(set [4]uint64) [4]uint64 {
	for i := range set {
		set[i] = ^set[i]
	}
	return set
}
