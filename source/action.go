// Package source reads sources: their templates and the actions in them.
package source

import "quill/api"

// The kinds of actions.
const (
	None   = 0 // no action
	Begin  = 1 // {+NAME}
	End    = 2 // {-}
	Hole   = 3 // {NAME}
	Choice = 4 // {?NAME}
	Else   = 5 // {:}
	Loop   = 6 // {*NAME}
	Done   = 7 // {/}
	Call   = 8 // {>NAME}
)

// Action: one thing in braces. Those without a name have an empty one.
type Action struct {
	Kind  int
	Name  string
	At    int    // the place of its {
	Next  int    // the place behind its }
	Ahead string // the text between the action before it and itself
}

// actionAt reads the action that begins at a place; it is of the kind None if none does.
func actionAt(src string, at int) Action {
	if at < 0 || at >= len(src)-1 || src[at] != '{' {
		return Action{}
	}
	kind := kindOf(src[at+1])
	from := at + 2
	if kind == Hole {
		// A hole has no mark: its name begins right behind the brace.
		from = at + 1
	}
	end := lettersEnd(src, from)
	fits := nameFits(kind, end-from)
	if !fits || end >= len(src) || src[end] != '}' {
		return Action{}
	}
	return Action{Kind: kind, Name: src[from:end], At: at, Next: end + 1}
}

// kindOf tells the kind of an action by the byte behind its brace.
func kindOf(mark byte) int {
	switch mark {
	case '+':
		return Begin
	case '-':
		return End
	case '?':
		return Choice
	case ':':
		return Else
	case '*':
		return Loop
	case '/':
		return Done
	case '>':
		return Call
	}
	if isNameByte(mark) {
		return Hole
	}
	return None
}

// lettersEnd tells where the bytes end, from a place on, of which names are made.
func lettersEnd(src string, from int) int {
	end := from
	for end < len(src) && isNameByte(src[end]) {
		end++
	}
	return end
}

func isNameByte(b byte) bool {
	return b >= 'a' && b <= 'z'
}

// nameFits tells whether an action of a kind can have a name of that length.
func nameFits(kind int, length int) bool {
	switch kind {
	case None:
		return false
	case End, Else, Done:
		return length == 0
	}
	return length >= 1 && length <= api.MaxName
}
