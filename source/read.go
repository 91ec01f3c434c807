package source

import "quill/api"

// state: where in a source one is, as far as it decides which action may follow.
type state struct {
	templates int   // how many have begun
	inBody    bool  // within one of them
	open      []int // Choice, Else (a choice behind its {:}) or Loop, the innermost last
}

// readActions answers the actions of a source, in their order; or the place of what is wrong first, and false.
func readActions(src string) ([]Action, int, bool) {
	var actions []Action
	var s state
	at := 0
	textFrom := 0
	for at < len(src) {
		if s.inBody && src[at] != '{' && src[at] != '}' {
			at++
			continue
		}
		action := actionAt(src, at)
		fits := s.take(action.Kind)
		if !fits {
			return nil, at, false
		}
		action.Ahead = src[textFrom:at]
		actions = append(actions, action)
		at = action.Next
		textFrom = at
	}
	if s.inBody || s.templates == 0 {
		return nil, len(src), false
	}
	return actions, 0, true
}

// take goes on behind an action of a kind; false, if it cannot stand here.
func (s *state) take(kind int) bool {
	if !s.inBody {
		return s.begin(kind)
	}
	switch kind {
	case Hole, Call:
		return true
	case Choice, Loop:
		return s.enter(kind)
	case Else:
		return s.turn()
	case Done:
		return s.leave()
	case End:
		return s.end()
	}
	return false
}

func (s *state) begin(kind int) bool {
	if kind != Begin || s.templates >= api.MaxTemplates {
		return false
	}
	s.templates++
	s.inBody = true
	return true
}

func (s *state) enter(kind int) bool {
	if len(s.open) >= api.MaxNest {
		return false
	}
	s.open = append(s.open, kind)
	return true
}

func (s *state) turn() bool {
	last := len(s.open) - 1
	if last < 0 || s.open[last] != Choice {
		return false
	}
	s.open[last] = Else
	return true
}

func (s *state) leave() bool {
	last := len(s.open) - 1
	if last < 0 {
		return false
	}
	s.open = s.open[:last]
	return true
}

func (s *state) end() bool {
	if len(s.open) > 0 {
		return false
	}
	s.inBody = false
	return true
}
