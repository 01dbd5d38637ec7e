package rex

import (
	"strings"

	"sordine/api"
)

const (
	special  = `|*+?()[].\`   // bytes that do not stand for themselves outside brackets
	inside   = `\][^-`        // bytes that do not stand for themselves inside brackets
	quotable = special + `^-` // bytes that may follow a backslash
)

// parser reads a pattern from its beginning to its end; its methods return false where there is none of what they read.
type parser struct {
	s     string
	at    int
	depth int // groups that are open
}

// Parse returns the tree of the pattern s.
func Parse(s string) (api.Rex, bool) {
	if len(s) > api.MaxPattern {
		return api.Rex{}, false
	}
	p := parser{s: s}
	x, ok := p.ways()
	// Ways also end at a closing bracket, which must not stand outside of groups.
	if !ok || p.at < len(s) {
		return api.Rex{}, false
	}
	return x, true
}

// next reports whether the next byte is one of set.
func (p *parser) next(set string) bool {
	return p.at < len(p.s) && strings.IndexByte(set, p.s[p.at]) >= 0
}

// skip goes past the next byte if it is c, and reports whether it was.
func (p *parser) skip(c byte) bool {
	if p.at >= len(p.s) || p.s[p.at] != c {
		return false
	}
	p.at++
	return true
}

// ways reads one or more ways.
func (p *parser) ways() (api.Rex, bool) {
	var kids []api.Rex
	for {
		way, ok := p.way()
		if !ok {
			return api.Rex{}, false
		}
		kids = append(kids, way)
		if !p.skip('|') {
			return joined(api.RAlt, kids), true
		}
	}
}

// way reads factors up to the end of a way.
func (p *parser) way() (api.Rex, bool) {
	var kids []api.Rex
	for p.at < len(p.s) && !p.next("|)") {
		factor, ok := p.factor()
		if !ok {
			return api.Rex{}, false
		}
		kids = append(kids, factor)
	}
	return joined(api.RSeq, kids), true
}

// joined returns the tree of kids: a single one stands by itself.
func joined(op int, kids []api.Rex) api.Rex {
	if len(kids) == 1 {
		return kids[0]
	}
	return api.Rex{Op: op, Kids: kids}
}

// factor reads an atom, and what repeats it.
func (p *parser) factor() (api.Rex, bool) {
	atom, ok := p.atom()
	if !ok {
		return api.Rex{}, false
	}
	switch {
	case p.skip('*'):
		return repeated(api.RStar, atom), true
	case p.skip('+'):
		return repeated(api.RPlus, atom), true
	case p.skip('?'):
		return repeated(api.RMaybe, atom), true
	}
	return atom, true
}

func repeated(op int, atom api.Rex) api.Rex {
	return api.Rex{Op: op, Kids: []api.Rex{atom}}
}

// atom reads a group, or what stands for one byte.
func (p *parser) atom() (api.Rex, bool) {
	switch {
	case p.skip('('):
		return p.group()
	case p.skip('['):
		return p.brackets()
	case p.skip('.'):
		return api.Rex{Op: api.RSet, Set: others([4]uint64{})}, true
	}
	c, ok := p.byteBut(special)
	if !ok {
		return api.Rex{}, false
	}
	return api.Rex{Op: api.RSet, Set: span(c, c)}, true
}

// byteBut reads a byte that is none of but, or a quoted one.
func (p *parser) byteBut(but string) (byte, bool) {
	allowed := !p.next(but)
	if p.skip('\\') {
		allowed = p.next(quotable)
	}
	if p.at >= len(p.s) || !allowed {
		return 0, false
	}
	c := p.s[p.at]
	p.at++
	return c, true
}

// group reads the rest of a group behind its opening bracket.
func (p *parser) group() (api.Rex, bool) {
	if p.depth == api.MaxDepth {
		return api.Rex{}, false
	}
	p.depth++
	x, ok := p.ways()
	p.depth--
	if !ok || !p.skip(')') {
		return api.Rex{}, false
	}
	return x, true
}

// brackets reads the rest of a choice of bytes behind its opening bracket.
func (p *parser) brackets() (api.Rex, bool) {
	negated := p.skip('^')
	set, ok := p.item()
	for ok && !p.skip(']') {
		var more [4]uint64
		more, ok = p.item()
		set = union(set, more)
	}
	if !ok {
		return api.Rex{}, false
	}
	if negated {
		set = others(set)
	}
	return api.Rex{Op: api.RSet, Set: set}, true
}

// item reads a byte, or two with a - between them.
func (p *parser) item() ([4]uint64, bool) {
	low, ok := p.byteBut(inside)
	if !ok {
		return [4]uint64{}, false
	}
	if !p.skip('-') {
		return span(low, low), true
	}
	high, ok := p.byteBut(inside)
	if !ok || high < low {
		return [4]uint64{}, false
	}
	return span(low, high), true
}
