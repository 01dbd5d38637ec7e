package prog

import "sordine/api"

// appendTree returns l with the steps of the valid tree x behind it; the indices in these are those of the whole list.
func appendTree(l []api.Step, x api.Rex) []api.Step {
	switch x.Op {
	case api.RSet:
		return append(l, api.Step{Op: api.SByte, Set: x.Set})
	case api.RAlt:
		return appendWays(l, x.Kids)
	case api.RStar:
		return appendStar(l, x.Kids[0])
	case api.RPlus:
		return appendPlus(l, x.Kids[0])
	case api.RMaybe:
		return appendMaybe(l, x.Kids[0])
	}
	for _, kid := range x.Kids {
		l = appendTree(l, kid)
	}
	return l
}

// appendWays appends an RAlt of kids.
func appendWays(l []api.Step, kids []api.Rex) []api.Step {
	var jumps []int
	last := len(kids) - 1
	for _, kid := range kids[:last] {
		split := len(l)
		l = append(l, api.Step{Op: api.SSplit, A: split + 1})
		l = appendTree(l, kid)
		jumps = append(jumps, len(l))
		l = append(l, api.Step{Op: api.SJump})
		l[split].B = len(l)
	}
	l = appendTree(l, kids[last])
	// Where they go to is the end of all ways, which is known only here.
	for _, jump := range jumps {
		l[jump].A = len(l)
	}
	return l
}

// appendStar appends an RStar of kid.
func appendStar(l []api.Step, kid api.Rex) []api.Step {
	split := len(l)
	l = append(l, api.Step{Op: api.SSplit, A: split + 1})
	l = appendTree(l, kid)
	l = append(l, api.Step{Op: api.SJump, A: split})
	l[split].B = len(l)
	return l
}

// appendPlus appends an RPlus of kid.
func appendPlus(l []api.Step, kid api.Rex) []api.Step {
	first := len(l)
	l = appendTree(l, kid)
	return append(l, api.Step{Op: api.SSplit, A: first, B: len(l) + 1})
}

// appendMaybe appends an RMaybe of kid.
func appendMaybe(l []api.Step, kid api.Rex) []api.Step {
	split := len(l)
	l = append(l, api.Step{Op: api.SSplit, A: split + 1})
	l = appendTree(l, kid)
	l[split].B = len(l)
	return l
}
