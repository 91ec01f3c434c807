// Package markup follows pages through their contexts, and writes texts as contexts ask.
package markup

func isLetter(b byte) bool {
	return b >= 'a' && b <= 'z' || b >= 'A' && b <= 'Z'
}

func isLetterOrDigit(b byte) bool {
	return b >= '0' && b <= '9' || isLetter(b)
}

func isSpace(b byte) bool {
	return b == ' ' || b == '\n'
}
