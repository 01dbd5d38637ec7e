package rex

import "sordine/api"

// part is a part of a tree while the bytes of a string are read. All matches are followed at once: each byte is read by the whole tree, so that repetitions inside repetitions do not multiply the work.
type part struct {
	op    int
	set   [4]uint64
	kids  []part
	empty bool // a match may have no bytes
	live  bool // the last byte was read in here
	last  bool // a match may end with the last byte
}

// Ends returns the indices of s, ascending, at which a match of x that begins at at may end.
func Ends(x api.Rex, s string, at int) []int {
	if at < 0 || at > len(s) || !Is(x) {
		return nil
	}
	var ends []int
	p := newPart(x)
	if p.empty {
		ends = append(ends, at)
	}
	for i := at; i < len(s); i++ {
		p.read(s[i], i == at)
		if !p.live {
			break
		}
		if p.last {
			ends = append(ends, i+1)
		}
	}
	return ends
}

// newPart returns the part for the valid tree x, before any byte was read.
func newPart(x api.Rex) part {
	p := part{op: x.Op, set: x.Set, kids: make([]part, len(x.Kids))}
	for i, kid := range x.Kids {
		p.kids[i] = newPart(kid)
	}
	p.empty = p.mayBeEmpty()
	return p
}

// mayBeEmpty works out empty from the kids.
func (p *part) mayBeEmpty() bool {
	switch p.op {
	case api.RStar, api.RMaybe:
		return true
	case api.RSeq:
		return p.emptyKids() == len(p.kids)
	}
	return p.emptyKids() > 0
}

// emptyKids returns how many kids may be empty.
func (p *part) emptyKids() int {
	n := 0
	for i := range p.kids {
		if p.kids[i].empty {
			n++
		}
	}
	return n
}

// read goes on by the byte c; begin says whether a match of the part may begin with it.
func (p *part) read(c byte, begin bool) {
	if !p.live && !begin {
		return
	}
	switch p.op {
	case api.RSet:
		p.live = begin && has(p.set, c)
		p.last = p.live
	case api.RSeq:
		p.readInOrder(c, begin)
	case api.RStar, api.RPlus:
		p.readEach(c, begin || p.last)
	default:
		p.readEach(c, begin)
	}
}

// readEach reads c in each kid, all beginning alike.
func (p *part) readEach(c byte, begin bool) {
	p.live, p.last = false, false
	for i := range p.kids {
		kid := &p.kids[i]
		kid.read(c, begin)
		p.live = p.live || kid.live
		p.last = p.last || kid.last
	}
}

// readInOrder reads c in each kid, which begins where the one before ended ahead of c.
func (p *part) readInOrder(c byte, begin bool) {
	p.live, p.last = false, false
	for i := range p.kids {
		kid := &p.kids[i]
		beginNext := kid.last || begin && kid.empty
		kid.read(c, begin)
		p.live = p.live || kid.live
		p.last = kid.last || p.last && kid.empty
		begin = beginNext
	}
}
