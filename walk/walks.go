// Package walk follows the walks through templates, as far as they can be known without data.
package walk

import (
	"quill/api"
	"quill/markup"
	"quill/source"
)

// group: all walks through one template that begin in the same context.
type group struct {
	begin int // which action begins the template
	from  int // the context in which they begin
	end   int // the context in which they end; nowhere, as long as none is known to end
}

// finder: what is known so far of all walks that are meant.
type finder struct {
	actions []source.Action
	groups  []group
	comes   [][api.Contexts]bool // for each action that is a hole: the contexts in which walks come to it
	grew    bool                 // whether a group, or the end of one, became known
}

// Walks tells in which contexts walks come to the holes (P6).
func Walks(src string, name string) ([]api.Use, api.Errno) {
	actions, e, _ := source.Load(src)
	if e != api.OK {
		return nil, e
	}
	begin, found := source.Find(actions, name)
	if !found {
		return nil, api.ErrName
	}
	f := finder{actions: actions, comes: make([][api.Contexts]bool, len(actions))}
	f.meet(begin, api.Text)
	fits := f.followAll()
	if !fits {
		return nil, api.ErrContext
	}
	return f.uses(), api.OK
}

// followAll follows the groups until nothing more becomes known; false, if one of them can't be.
// What a call leads to may become known later than the call, so one round is not enough.
func (f *finder) followAll() bool {
	for f.grew {
		f.grew = false
		for i := 0; i < len(f.groups); i++ {
			fits := f.follow(i)
			if !fits {
				return false
			}
		}
	}
	return true
}

// follow goes once through the template of a group; false, if walks are lost, come to a hole that
// can't be filled, come to one place in different contexts, or end where they must not.
func (f *finder) follow(which int) bool {
	p := path{now: f.groups[which].from}
	for i := f.groups[which].begin + 1; i < len(f.actions); i++ {
		fits := p.read(f.actions[i].Ahead)
		if !fits {
			return false
		}
		if f.actions[i].Kind == source.End {
			return f.end(which, p.now)
		}
		fits = f.take(&p, i)
		if !fits {
			return false
		}
	}
	return true
}

// take goes through one action of a body; false as follow has it.
func (f *finder) take(p *path, i int) bool {
	switch f.actions[i].Kind {
	case source.Hole:
		return f.fill(i, p.now)
	case source.Call:
		p.now = f.call(f.actions[i].Name, p.now)
	case source.Choice, source.Loop:
		p.enter()
	case source.Else:
		p.turn()
	case source.Done:
		return p.leave()
	}
	return true
}

// fill notes that walks come to a hole; false, if it can't be filled there.
func (f *finder) fill(i int, context int) bool {
	if context == nowhere {
		return true
	}
	if !markup.IsOpen(context) {
		return false
	}
	f.comes[i][context] = true
	return true
}

// call answers the context behind a call, as far as it is known.
func (f *finder) call(name string, context int) int {
	begin, found := source.Find(f.actions, name)
	if !found || context == nowhere {
		return nowhere
	}
	return f.meet(begin, context)
}

// meet answers the context in which the walks of a group end, as far as it is known. A group that was
// not known is from then on.
func (f *finder) meet(begin int, from int) int {
	for i := 0; i < len(f.groups); i++ {
		if f.groups[i].begin == begin && f.groups[i].from == from {
			return f.groups[i].end
		}
	}
	f.groups = append(f.groups, group{begin: begin, from: from, end: nowhere})
	f.grew = true
	return nowhere
}

// end notes the context in which the walks of a group end; false, if they must end in Text and don't.
func (f *finder) end(which int, context int) bool {
	if context == nowhere {
		return true
	}
	if f.groups[which].end == nowhere {
		f.groups[which].end = context
		f.grew = true
	}
	// The first group is that of the template asked for, from Text.
	return which != 0 || context == api.Text
}

// uses lists what walks come to: by rising places, of one place by rising contexts.
func (f *finder) uses() []api.Use {
	var list []api.Use
	for i := 0; i < len(f.comes); i++ {
		for context := 0; context < api.Contexts; context++ {
			if f.comes[i][context] {
				list = append(list, api.Use{At: f.actions[i].At, Context: context})
			}
		}
	}
	return list
}
