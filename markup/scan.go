package markup

import "quill/api"

// Scan tells in which context one is behind all bytes of a text (P4).
func Scan(context int, text string) int {
	if context < 0 || context >= api.Contexts {
		return api.Lost
	}
	for i := 0; i < len(text) && context != api.Lost; i++ {
		context = Step(context, text[i])
	}
	return context
}

// Step tells in which context one is behind one byte.
func Step(context int, b byte) int {
	switch context {
	case api.Text:
		return behindText(b)
	case api.Less:
		return behindLess(b)
	case api.Close:
		return behindClose(b)
	case api.Name:
		return behindName(b)
	case api.NameS:
		// A name that goes on is no longer s, so only its end differs from Name.
		next := behindName(b)
		return withS(next)
	case api.Code, api.CodeLess:
		return behindCode(context, b)
	case api.Quote, api.QuoteEsc, api.QuoteLs:
		return behindQuote(context, b)
	}
	plain := withoutS(context)
	next := behindAttribute(plain, b)
	if plain != context {
		return withS(next)
	}
	return next
}

func behindText(b byte) int {
	if b == '<' {
		return api.Less
	}
	return api.Text
}

func behindLess(b byte) int {
	switch b {
	case 's':
		return api.NameS
	case '/':
		return api.Close
	case '<':
		return api.Less
	}
	if isLetter(b) {
		return api.Name
	}
	return api.Text
}

func behindClose(b byte) int {
	if b == '>' {
		return api.Text
	}
	return api.Close
}

func behindName(b byte) int {
	if isLetterOrDigit(b) {
		return api.Name
	}
	return behindWord(b)
}
