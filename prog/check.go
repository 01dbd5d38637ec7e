package prog

import "sordine/api"

// Check reports whether l is a valid program.
func Check(l []api.Step) bool {
	if len(l) < 1 || len(l) > api.MaxProg {
		return false
	}
	for _, s := range l {
		if !isStep(s, len(l)) {
			return false
		}
	}
	// After a byte the next step is taken, and so there must be one.
	return l[len(l)-1].Op != api.SByte
}

// isStep reports whether s is valid in a program of n steps, wherever in it.
func isStep(s api.Step, n int) bool {
	if s.Op == api.SByte {
		return s.A == 0 && s.B == 0
	}
	if s.Set != [4]uint64{} {
		return false
	}
	switch s.Op {
	case api.SSplit:
		return isIndex(s.A, n) && isIndex(s.B, n)
	case api.SJump:
		return isIndex(s.A, n) && s.B == 0
	case api.SMatch:
		return s.A == 0 && s.B == 0
	}
	return false
}

// isIndex reports whether i is an index of a list of n elements.
func isIndex(i, n int) bool {
	return 0 <= i && i < n
}
