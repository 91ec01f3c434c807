package page

import (
	"quill/api"
	"quill/markup"
	"quill/source"
)

// writer: a page as far as it is written.
type writer struct {
	actions []source.Action
	rows    []api.Row // those one is in, the innermost last
	out     []byte
	context int // the one behind out
	steps   int // how many were done
}

// step does one step (P8). Every body within another costs one, so that writing ends.
func (w *writer) step() api.Errno {
	if w.steps >= api.MaxSteps {
		return api.ErrSteps
	}
	w.steps++
	return api.OK
}

// text writes what stands in a template as it is.
func (w *writer) text(text string) api.Errno {
	for i := 0; i < len(text); i++ {
		if len(w.out) >= api.MaxOut {
			return api.ErrOut
		}
		w.context = markup.Step(w.context, text[i])
		if w.context == api.Lost {
			return api.ErrMarkup
		}
		w.out = append(w.out, text[i])
	}
	return api.OK
}

// fill writes a field into a hole. What Escape makes leaves the context as it is.
func (w *writer) fill(field api.Field) api.Errno {
	if field.List {
		return api.ErrKind
	}
	text := field.Text
	if len(text) > api.MaxOut {
		// No byte is written as less than one, so this much is already too long: the rest can't matter.
		text = text[:api.MaxOut+1]
	}
	written, e := markup.Escape(w.context, text)
	if e != api.OK {
		return e
	}
	if len(w.out)+len(written) > api.MaxOut {
		return api.ErrOut
	}
	w.out = append(w.out, written...)
	return api.OK
}
