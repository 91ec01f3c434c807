package markup

import "quill/api"

func behindCode(context int, b byte) int {
	switch b {
	case '\'':
		return api.Quote
	case '<':
		return api.CodeLess
	case '/':
		if context == api.CodeLess {
			return api.Close
		}
	}
	return api.Code
}

func behindQuote(context int, b byte) int {
	switch b {
	case '\n':
		return api.Lost
	case '<':
		// Even behind \: a page's reader looks for the element's end, not for quotes.
		return api.QuoteLs
	case '\'':
		if context != api.QuoteEsc {
			return api.Code
		}
	case '\\':
		if context != api.QuoteEsc {
			return api.QuoteEsc
		}
	case '/':
		if context == api.QuoteLs {
			return api.Close
		}
	}
	return api.Quote
}
