package markup

import "quill/api"

// IsOpen tells whether a hole can be filled in a context.
func IsOpen(context int) bool {
	switch context {
	case api.Text, api.Value, api.ValueS, api.Link, api.LinkS, api.Code, api.Quote:
		return true
	}
	return false
}

// Escape writes a text as it must stand in a context (P5).
func Escape(context int, s string) (string, api.Errno) {
	if !IsOpen(context) {
		return "", api.ErrHole
	}
	var out []byte
	if context == api.Code {
		out = append(out, '\'')
	}
	for i := 0; i < len(s); i++ {
		piece := escapeByte(context, s[i])
		out = append(out, piece...)
	}
	if context == api.Code {
		out = append(out, '\'')
	}
	return string(out), api.OK
}

func escapeByte(context int, b byte) string {
	switch context {
	case api.Value, api.ValueS:
		return escapeInValue(b)
	case api.Link, api.LinkS:
		return escapeInLink(b)
	case api.Quote, api.Code:
		return escapeInQuote(b)
	}
	return escapeInText(b)
}

func escapeInText(b byte) string {
	switch b {
	case '<':
		return "&lt;"
	case '>':
		return "&gt;"
	case '&':
		return "&amp;"
	}
	return string([]byte{b})
}

func escapeInValue(b byte) string {
	if b == '"' {
		return "&quot;"
	}
	return escapeInText(b)
}

func escapeInLink(b byte) string {
	switch b {
	case '-', '_', '.', '~', '/':
		return string([]byte{b})
	}
	if isLetterOrDigit(b) {
		return string([]byte{b})
	}
	high := hexDigit(b/16, 'A')
	low := hexDigit(b%16, 'A')
	return string([]byte{'%', high, low})
}

func escapeInQuote(b byte) string {
	switch b {
	case ' ', '-', '_', '.', ',', ':', '/':
		return string([]byte{b})
	}
	if isLetterOrDigit(b) {
		return string([]byte{b})
	}
	high := hexDigit(b/16, 'a')
	low := hexDigit(b%16, 'a')
	return string([]byte{'\\', 'x', high, low})
}

// hexDigit writes a number below 16 as a digit; ten is the letter that stands for 10.
func hexDigit(n byte, ten byte) byte {
	if n < 10 {
		return '0' + n
	}
	return ten + (n - 10)
}
