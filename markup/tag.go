package markup

import "quill/api"

// behindWord: the bytes that end a tag's name or an attribute's name, or follow one.
func behindWord(b byte) int {
	if isSpace(b) {
		return api.Gap
	}
	if b == '>' {
		return api.Text
	}
	return api.Lost
}

// behindAttribute steps through the contexts of attributes that have no S.
func behindAttribute(context int, b byte) int {
	switch context {
	case api.Gap:
		return behindGap(b)
	case api.Attr:
		return behindAttr(b, api.Equal)
	case api.AttrU:
		return behindAttr(b, api.EqualU)
	case api.Equal:
		return behindEqual(b, api.Value)
	case api.EqualU:
		return behindEqual(b, api.Link)
	case api.Value, api.Link:
		if b == '"' {
			return api.Gap
		}
		return context
	}
	return api.Lost
}

func behindGap(b byte) int {
	if b == 'u' {
		return api.AttrU
	}
	if isLetter(b) {
		return api.Attr
	}
	return behindWord(b)
}

func behindAttr(b byte, equal int) int {
	if isLetterOrDigit(b) {
		return api.Attr
	}
	if b == '=' {
		return equal
	}
	return behindWord(b)
}

func behindEqual(b byte, value int) int {
	if b == '"' {
		return value
	}
	return api.Lost
}

// withS answers the context in a tag s that a context has in others; what lies behind that tag is code.
func withS(context int) int {
	switch context {
	case api.Text:
		return api.Code
	case api.Gap:
		return api.GapS
	case api.Attr:
		return api.AttrS
	case api.AttrU:
		return api.AttrUS
	case api.Equal:
		return api.EqualS
	case api.EqualU:
		return api.EqualUS
	case api.Value:
		return api.ValueS
	case api.Link:
		return api.LinkS
	}
	return context
}

// withoutS answers the context in other tags that a context has in a tag s.
func withoutS(context int) int {
	switch context {
	case api.GapS:
		return api.Gap
	case api.AttrS:
		return api.Attr
	case api.AttrUS:
		return api.AttrU
	case api.EqualS:
		return api.Equal
	case api.EqualUS:
		return api.EqualU
	case api.ValueS:
		return api.Value
	case api.LinkS:
		return api.Link
	}
	return context
}
