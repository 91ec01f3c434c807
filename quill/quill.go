// Package quill: pages from templates, in which what is filled in is written as its context asks: see DOC.md.
package quill

import (
	"quill/api"
	"quill/markup"
	"quill/page"
	"quill/source"
	"quill/walk"
)

// Check tells whether a text is a source (P3).
func Check(src string) (api.Errno, int) { return source.Check(src) }

// Scan tells in which context one is behind some bytes (P4).
func Scan(context int, text string) int { return markup.Scan(context, text) }

// Escape writes a text as it must stand in a context (P5).
func Escape(context int, s string) (string, api.Errno) { return markup.Escape(context, s) }

// Walks tells in which contexts one comes to the holes (P6).
func Walks(src string, name string) ([]api.Use, api.Errno) { return walk.Walks(src, name) }

// Render makes a page (P7, P8).
func Render(way int, src string, name string, data api.Row) (string, api.Errno) {
	return page.Render(way, src, name, data)
}
