// Package page makes pages: it goes through templates as data have it, and writes.
package page

import (
	"quill/api"
	"quill/source"
	"quill/walk"
)

// Render makes a page (P7, P8).
func Render(way int, src string, name string, data api.Row) (string, api.Errno) {
	actions, e, _ := source.Load(src)
	if e != api.OK {
		return "", e
	}
	if way != api.Tracked && way != api.Fixed {
		return "", api.ErrArg
	}
	begin, found := source.Find(actions, name)
	if !found {
		return "", api.ErrName
	}
	// Where Walks finds nothing wrong, the context can be followed with Fixed too: of the errors
	// that Tracked alone has, none can come then.
	if way == api.Fixed {
		_, e = walk.Walks(src, name)
		if e != api.OK {
			return "", e
		}
	}
	w := writer{actions: actions, rows: []api.Row{data}, context: api.Text}
	e = w.body(begin + 1)
	if e != api.OK {
		return "", e
	}
	if w.context != api.Text {
		return "", api.ErrEnd
	}
	return string(w.out), api.OK
}
