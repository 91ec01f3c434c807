package quill_test

import (
	"strings"
	"testing"

	"quill/api"
	"quill/quill"
)

// contextNames: as the document counts them.
var contextNames = strings.Fields("Text Less Close Name NameS Gap GapS Attr AttrS AttrU AttrUS Equal EqualS EqualU EqualUS Value ValueS Link LinkS Code CodeLess Quote QuoteEsc QuoteLs")

// contextTable: the document's table, a line a context, with the contexts that end in S written out.
// What stands ahead of a name: one byte, or "letter", "digit", "space", "newline", "any".
const contextTable = `
Text: < Less, any Text
Less: s NameS, letter Name, / Close, < Less, any Text
Close: > Text, any Close
Name: letter Name, digit Name, space Gap, > Text
NameS: letter Name, digit Name, space GapS, > Code
Gap: space Gap, > Text, u AttrU, letter Attr
Attr: letter Attr, digit Attr, = Equal, space Gap, > Text
AttrU: letter Attr, digit Attr, = EqualU, space Gap, > Text
Equal: " Value
EqualU: " Link
Value: " Gap, any Value
Link: " Gap, any Link
GapS: space GapS, > Code, u AttrUS, letter AttrS
AttrS: letter AttrS, digit AttrS, = EqualS, space GapS, > Code
AttrUS: letter AttrS, digit AttrS, = EqualUS, space GapS, > Code
EqualS: " ValueS
EqualUS: " LinkS
ValueS: " GapS, any ValueS
LinkS: " GapS, any LinkS
Code: ' Quote, < CodeLess, any Code
CodeLess: / Close, ' Quote, < CodeLess, any Code
Quote: ' Code, \ QuoteEsc, < QuoteLs, newline Lost, any Quote
QuoteEsc: < QuoteLs, newline Lost, any Quote
QuoteLs: / Close, ' Code, \ QuoteEsc, < QuoteLs, newline Lost, any Quote
`

const (
	allLetters = "abcdefghijklmnopqrstuvwxyzABCDEFGHIJKLMNOPQRSTUVWXYZ"
	allDigits  = "0123456789"
)

func contextNumber(name string) int {
	for i, n := range contextNames {
		if n == name {
			return i
		}
	}
	return -1
}

func suits(what string, b byte) bool {
	switch what {
	case "letter":
		return strings.IndexByte(allLetters, b) >= 0
	case "digit":
		return strings.IndexByte(allDigits, b) >= 0
	case "space":
		return b == 32 || b == 10
	case "newline":
		return b == 10
	case "any":
		return true
	}
	return what == string([]byte{b})
}

// tableStep: one byte, by the table above.
func tableStep(context int, b byte) int {
	for _, line := range strings.Split(strings.TrimSpace(contextTable), "\n") {
		name, rules, _ := strings.Cut(line, ": ")
		if contextNumber(name) != context {
			continue
		}
		for _, rule := range strings.Split(rules, ", ") {
			what, next, _ := strings.Cut(rule, " ")
			if suits(what, b) {
				return contextNumber(next)
			}
		}
	}
	return -1
}

func TestContextNumbers(t *testing.T) {
	if len(contextNames) != api.Contexts || api.Lost != -1 {
		t.Errorf("%d contexts, Lost %d", api.Contexts, api.Lost)
	}
	for _, c := range []struct {
		name string
		is   int
	}{{"Text", api.Text}, {"NameS", api.NameS}, {"LinkS", api.LinkS}, {"Code", api.Code}, {"QuoteLs", api.QuoteLs}} {
		if contextNumber(c.name) != c.is {
			t.Errorf("%s is %d", c.name, c.is)
		}
	}
}

func TestScanEveryByte(t *testing.T) {
	for context := 0; context < 24; context++ {
		for b := 0; b < 256; b++ {
			text := string([]byte{byte(b)})
			want := tableStep(context, byte(b))
			if got := quill.Scan(context, text); got != want {
				t.Errorf("P4: Scan(%s, %q) = %d, want %d", contextNames[context], text, got, want)
			}
		}
	}
}

// TestScanEveryTwoBytes: so that Scan goes on from where one byte led, and stays lost.
func TestScanEveryTwoBytes(t *testing.T) {
	for context := 0; context < 24; context++ {
		for _, a := range []byte("<>/=\"'\\ \nsutSU0-\x00\xff") {
			for _, b := range []byte("<>/=\"'\\ \nsutSU0-\x00\xff") {
				want := tableStep(context, a)
				if want >= 0 {
					want = tableStep(want, b)
				}
				if got := quill.Scan(context, string([]byte{a, b})); got != want {
					t.Errorf("P4: Scan(%s, %q) = %d, want %d", contextNames[context], []byte{a, b}, got, want)
				}
			}
		}
	}
}

func TestScanNoBytes(t *testing.T) {
	for context := 0; context < 24; context++ {
		if got := quill.Scan(context, ""); got != context {
			t.Errorf("P4: Scan(%d, nothing) = %d", context, got)
		}
	}
}

func TestScanNoContext(t *testing.T) {
	for _, context := range []int{-1 << 63, -24, -2, -1, 24, 25, 256, 1 << 32, 1<<63 - 1} {
		for _, text := range []string{"", "x", "<b>", "</b>", "\""} {
			if got := quill.Scan(context, text); got != api.Lost {
				t.Errorf("P4: Scan(%d, %q) = %d, want Lost", context, text, got)
			}
		}
	}
}

func TestScanPages(t *testing.T) {
	for _, c := range []struct {
		context int
		text    string
		want    int
	}{
		{api.Text, `<s u="`, api.LinkS}, {api.Quote, `x</`, api.Close}, {api.Text, `<a b=c`, api.Lost},
		{api.Text, `<p t="1" u="/x"><b>y</b></p>`, api.Text}, {api.Text, `<s t="1">f('a', "b")</s><s`, api.NameS}, {api.Text, `<s t=">" u=">">x`, api.Code},
		{api.Text, `<s>'\'</s>'`, api.Text}, {api.Text, `<s>'\\'`, api.Code}, {api.Text, `a < b, a <3`, api.Text}, {api.Text, "<s>'a\n'</s>", api.Lost},
		{api.Text, `<b t=>x</b><b t="`, api.Lost}, {api.Text, strings.Repeat(`<b t="1">`, 100000) + `<b t="`, api.Value}, {api.Text, "<b-" + strings.Repeat("x", 1000000), api.Lost},
	} {
		if got := quill.Scan(c.context, c.text); got != c.want {
			t.Errorf("P4: Scan(%d, %.60q) = %d, want %d", c.context, c.text, got, c.want)
		}
	}
}
