package page

import (
	"quill/api"
	"quill/source"
)

// body writes the pieces of a body, of which from is the first action.
func (w *writer) body(from int) api.Errno {
	for i := from; i >= 0 && i < len(w.actions); i = source.Behind(w.actions, i) {
		e := w.text(w.actions[i].Ahead)
		if e != api.OK {
			return e
		}
		if source.EndsBody(w.actions[i].Kind) {
			return api.OK
		}
		e = w.piece(w.actions[i], i+1)
		if e != api.OK {
			return e
		}
	}
	return api.OK
}

// piece writes the piece that begins with an action; next is the action behind that one.
func (w *writer) piece(action source.Action, next int) api.Errno {
	e := w.step()
	if e != api.OK {
		return e
	}
	if action.Kind == source.Call {
		return w.call(action.Name)
	}
	field, found := w.find(action.Name)
	if !found {
		return api.ErrField
	}
	switch action.Kind {
	case source.Hole:
		return w.fill(field)
	case source.Choice:
		return w.choose(next, field)
	}
	return w.repeat(next, field)
}

// find looks for a field in the row one is in, then in those around it.
func (w *writer) find(name string) (api.Field, bool) {
	for i := len(w.rows) - 1; i >= 0; i-- {
		fields := w.rows[i].Fields
		for j := 0; j < len(fields); j++ {
			if fields[j].Name == name {
				return fields[j], true
			}
		}
	}
	return api.Field{}, false
}

// call writes the template of a name, in the row in which one is.
func (w *writer) call(name string) api.Errno {
	begin, found := source.Find(w.actions, name)
	if !found {
		return api.ErrName
	}
	return w.body(begin + 1)
}

// choose writes one way of a choice; first is the first action of its first way.
func (w *writer) choose(first int, field api.Field) api.Errno {
	if isFull(field) {
		return w.body(first)
	}
	end := source.BodyEnd(w.actions, first)
	if end < len(w.actions) && w.actions[end].Kind == source.Else {
		return w.body(end + 1)
	}
	return api.OK
}

func isFull(field api.Field) bool {
	if field.List {
		return len(field.Rows) > 0
	}
	return field.Text != ""
}

// repeat writes a loop: its body, of which from is the first action, once in each row.
func (w *writer) repeat(from int, field api.Field) api.Errno {
	if !field.List {
		return api.ErrKind
	}
	for r := 0; r < len(field.Rows); r++ {
		e := w.step()
		if e != api.OK {
			return e
		}
		w.rows = append(w.rows, field.Rows[r])
		e = w.body(from)
		if e != api.OK {
			return e
		}
		w.leave()
	}
	return api.OK
}

// leave goes out of the row in which one is.
func (w *writer) leave() {
	last := len(w.rows) - 1
	if last >= 0 {
		w.rows = w.rows[:last]
	}
}
