package walk

import (
	"quill/api"
	"quill/markup"
)

// nowhere: the context at a place to which no walk is known to come.
const nowhere = api.Lost

// path: a place in a template's body, and the one context in which walks come to it.
type path struct {
	now  int
	open []fork // the choices and loops around the place, the innermost last
}

// fork: a choice or a loop that one is in.
type fork struct {
	ahead int // the context ahead of it
	other int // the context at the end of its other way
}

// read goes through a text; false, if walks are lost in it.
func (p *path) read(text string) bool {
	if p.now == nowhere {
		return true
	}
	p.now = markup.Scan(p.now, text)
	return p.now != api.Lost
}

// enter goes into a choice or a loop. As long as there is no {:}, its other way is to pass it by.
func (p *path) enter() {
	p.open = append(p.open, fork{ahead: p.now, other: p.now})
}

// turn goes from the end of a choice's first way to the beginning of its second.
func (p *path) turn() {
	last := len(p.open) - 1
	if last < 0 {
		return
	}
	p.open[last].other = p.now
	p.now = p.open[last].ahead
}

// leave goes out of a choice or a loop; false, if its ways end in different contexts.
// A loop needs no second time through: where it passes, that time begins as the first did.
func (p *path) leave() bool {
	last := len(p.open) - 1
	if last < 0 {
		return true
	}
	other := p.open[last].other
	p.open = p.open[:last]
	if p.now == nowhere {
		p.now = other
	}
	return other == nowhere || other == p.now
}
