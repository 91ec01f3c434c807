package quill_test

import (
	"regexp"
	"strings"
	"testing"

	"quill/api"
	"quill/quill"
)

type checkCase struct {
	src string
	e   api.Errno
	at  int
}

func tryChecks(t *testing.T, cases []checkCase) {
	t.Helper()
	for _, c := range cases {
		if e, at := quill.Check(c.src); e != c.e || at != c.at {
			t.Errorf("P3: Check(%.80q) = %d, %d, want %d, %d", c.src, e, at, c.e, c.at)
		}
	}
}

// body: a source of one template a with that body, which begins at 4.
func body(s string) string { return "{+a}" + s + "{-}" }

func TestCheckSources(t *testing.T) {
	for _, s := range []string{
		"", "x", "{x}", "{abcdefgh}", "{?x}{/}", "{?x}a{:}b{/}", "{*r}{x}{/}", "{>a}",
		"{?x}{?y}{:}{/}{:}{*r}{/}{/}", "{*r}{?x}{:}{/}{/}", "+-?:*/>", "\x00\xff\n\t<>&'\"\\",
		"{?a}{?b}{?c}{?d}{*e}{*f}{*g}{*h}x{/}{/}{/}{/}{/}{/}{/}{/}{?x}{/}",
	} {
		tryChecks(t, []checkCase{{body(s), api.OK, 0}})
	}
	tryChecks(t, []checkCase{
		{"{+a}{>f}{-}{+b}{-}{+c}{-}{+d}{-}{+e}{-}{+f}{>a}{-}", api.OK, 0},
		{"{+a}{-}{+aa}{-}{+b}{>aa}{-}", api.OK, 0},
	})
}

func TestCheckLength(t *testing.T) {
	long := func(n int) string { return body(strings.Repeat("x", n-len(body("")))) }
	tryChecks(t, []checkCase{
		{long(399), api.OK, 0}, {long(400), api.OK, 0}, {long(401), api.ErrLong, 0}, {long(100000), api.ErrLong, 0},
		{strings.Repeat("}", 400), api.ErrSyntax, 0}, {strings.Repeat("}", 401), api.ErrLong, 0},
		{"{+a}" + strings.Repeat("x", 396), api.ErrSyntax, 400}, {"{+a}" + strings.Repeat("x", 397), api.ErrLong, 0},
	})
}

func TestCheckWhereTemplatesBegin(t *testing.T) {
	for _, s := range []string{
		"", "x", "}", "{", "{+", "{+a", "{+}", "{+A}{-}", "{+aB}{-}", "{+a1}{-}", "{+ a}{-}", "{+a }{-}", "{+abcdefghi}{-}",
		"{+a{-}", "{-}", "{a}", "{?a}{/}", "{*a}{/}", "{>a}", "{:}", "{/}", "\n{+a}{-}", "{`}", "{+`}{-}", "{+{}{-}",
	} {
		tryChecks(t, []checkCase{{s, api.ErrSyntax, 0}})
		if s != "" {
			tryChecks(t, []checkCase{{"{+z}y{-}" + s, api.ErrSyntax, 8}})
		}
	}
	six := "{+a}{-}{+b}{-}{+c}{-}{+d}{-}{+e}{-}{+f}{-}"
	tryChecks(t, []checkCase{{six, api.OK, 0}, {six + "{+g}{-}", api.ErrSyntax, 42}, {six + "{+g", api.ErrSyntax, 42}, {six + "x", api.ErrSyntax, 42}})
}

func TestCheckActions(t *testing.T) {
	for _, s := range []string{
		"}", "{}", "{", "{{x}}", "{ }", "{x }", "{X}", "{x1}", "{abcdefghi}", "{`}", "{{}", "{+b}", "{+}", "{!x}", "{=x}",
		"{?}", "{?X}{/}", "{?abcdefghi}{/}", "{? x}{/}", "{*}", "{*9}{/}", "{*abcdefghi}{/}", "{>}", "{>A}", "{>abcdefghi}",
		"{:x}", "{/x}", "{-x}", "{: }", "{/ }", "{- }", "{--}", "{?x", "{*r", "{>a", "{:", "{/", "{-", "{\xe1}", "{\n}",
		"{:}", "{/}", "{??x}{/}",
	} {
		tryChecks(t, []checkCase{{body(s), api.ErrSyntax, 4}, {body("ab{x}" + s), api.ErrSyntax, 9}, {body("{?x}{/}" + s), api.ErrSyntax, 11}})
	}
	for _, s := range []string{"{", "{x", "{abcdefgh", "{?", "{?x", "{:", "{/", "{-", "{>a"} {
		tryChecks(t, []checkCase{{"{+a}x" + s, api.ErrSyntax, 5}})
	}
}

func TestCheckNesting(t *testing.T) {
	tryChecks(t, []checkCase{
		{body("{?x}{:}{:}{/}"), api.ErrSyntax, 11}, {body("{*x}{:}{/}"), api.ErrSyntax, 8}, {body("{?x}{*r}{:}{/}{/}"), api.ErrSyntax, 12},
		{body("{?x}{?y}{:}{/}{:}{/}"), api.OK, 0}, {body("{?x}{:}{?y}{:}{/}{:}{/}"), api.ErrSyntax, 21},
		{body("{?x}"), api.ErrSyntax, 8}, {body("{?x}{:}"), api.ErrSyntax, 11}, {body("{*x}"), api.ErrSyntax, 8}, {body("{?x}{*y}{/}"), api.ErrSyntax, 15},
		{"{+a}", api.ErrSyntax, 4}, {"{+a}x", api.ErrSyntax, 5}, {"{+a}{?x}y", api.ErrSyntax, 9}, {"{+a}{-}{+b}{x}", api.ErrSyntax, 14},
		// What is open in one template is no one's in the next.
		{"{+a}{?x}{/}{-}{+b}{/}{-}", api.ErrSyntax, 18}, {"{+a}{?x}{-}{+b}{/}{-}", api.ErrSyntax, 8},
	})
	for _, open := range []string{"{?x}", "{*r}"} {
		for n := 0; n <= 12; n++ {
			want := checkCase{body(strings.Repeat(open, n) + strings.Repeat("{/}", n)), api.OK, 0}
			if n > api.MaxNest {
				want.e, want.at = api.ErrSyntax, 4+4*api.MaxNest
			}
			tryChecks(t, []checkCase{want})
		}
	}
	tryChecks(t, []checkCase{{body(strings.Repeat("{?x}", 8) + "{/}{*r}{?x}"), api.ErrSyntax, 4 + 4*8 + 3 + 4}})
}

func TestCheckNames(t *testing.T) {
	tryChecks(t, []checkCase{
		{"{+a}{-}{+a}{-}", api.ErrTwice, 7}, {"{+a}{-}{+b}{-}{+c}{-}{+b}{-}{+a}{-}", api.ErrTwice, 21}, {"{+a}{-}{+a}{-}{+a}{-}", api.ErrTwice, 7},
		{body("{>b}"), api.ErrName, 4}, {body("{>aa}"), api.ErrName, 4}, {"{+ab}{>a}{-}", api.ErrName, 5}, {body("{?x}{>b}{:}{>c}{/}"), api.ErrName, 8},
		{"{+a}{>a}{>b}{>c}{-}{+b}{>d}{-}", api.ErrName, 12},
		// A template's name is no field's, and a field's none of a template.
		{body("{b}{?b}{*b}{>b}{/}{/}"), api.ErrName, 15},
		// Of several errors the one named first, wherever it stands.
		{"{+a}{>z}{-}{+a}{-}", api.ErrTwice, 11}, {"{+a}{>z}{-}{+a}{-}}", api.ErrSyntax, 18}, {"{+a}{>z}{-}x", api.ErrSyntax, 11},
		{"{+a}{>z}{-}{+a}{-}" + strings.Repeat("x", 400), api.ErrLong, 0},
	})
}

func TestCheckExamples(t *testing.T) {
	tryChecks(t, []checkCase{
		{"", api.ErrSyntax, 0}, {"{+a}x", api.ErrSyntax, 5}, {"{+a}}{-}", api.ErrSyntax, 4}, {"{+a}{?x}{-}", api.ErrSyntax, 8},
		{"{+a}{-}{+a}{-}", api.ErrTwice, 7}, {"{+a}{>b}{-}", api.ErrName, 4}, {"{+A}{-}", api.ErrSyntax, 0},
		{"{+main}{?x}<a u=\"{:}<a t=\"{/}{y}\">{-}", api.OK, 0}, {"{+a}<p t=\"{>b}\">{>b}{-}{+b}{x}{-}", api.OK, 0},
	})
}

var (
	beginForm = regexp.MustCompile(`^\{\+([a-z]{1,8})\}`)
	pieceForm = regexp.MustCompile(`^(?:[^{}]|\{[a-z]{1,8}\}|\{>[a-z]{1,8}\})`)
	openForm  = regexp.MustCompile(`^\{[?*][a-z]{1,8}\}`)
	callForm  = regexp.MustCompile(`\{>([a-z]{1,8})\}`)
)

// skipBody reads a body as the grammar has it, by recursion: where it ends, or where what is wrong stands (and false).
func skipBody(src string, at int, depth int) (int, bool) {
	for at < len(src) {
		rest := src[at:]
		if m := pieceForm.FindString(rest); m != "" {
			at += len(m)
			continue
		}
		m := openForm.FindString(rest)
		if m == "" {
			return at, true
		}
		if depth == 8 {
			return at, false
		}
		end, ok := skipBody(src, at+len(m), depth+1)
		if ok && m[1] == '?' && strings.HasPrefix(src[end:], "{:}") {
			end, ok = skipBody(src, end+3, depth+1)
		}
		if !ok || !strings.HasPrefix(src[end:], "{/}") {
			return end, false
		}
		at = end + 3
	}
	return at, true
}

// modelCheck: P3 once more, in another way.
func modelCheck(src string) (api.Errno, int) {
	var names []string
	twice := -1
	at := 0
	for first := true; first || at < len(src); first = false {
		m := beginForm.FindStringSubmatch(src[at:])
		if m == nil || len(names) == 6 {
			return api.ErrSyntax, at
		}
		if strings.Contains(" "+strings.Join(names, " ")+" ", " "+m[1]+" ") && twice < 0 {
			twice = at
		}
		names = append(names, m[1])
		end, ok := skipBody(src, at+len(m[0]), 0)
		if !ok || !strings.HasPrefix(src[end:], "{-}") {
			return api.ErrSyntax, end
		}
		at = end + 3
	}
	if twice >= 0 {
		return api.ErrTwice, twice
	}
	for _, m := range callForm.FindAllStringSubmatchIndex(src, -1) {
		if !strings.Contains(" "+strings.Join(names, " ")+" ", " "+src[m[2]:m[3]]+" ") {
			return api.ErrName, m[0]
		}
	}
	return api.OK, 0
}

// tryAll checks start and all that up to n more tokens make of it against the model.
func tryAll(t *testing.T, start string, tokens []string, n int) {
	e, at := quill.Check(start)
	if we, wat := modelCheck(start); e != we || at != wat {
		t.Fatalf("P3: Check(%q) = %d, %d, want %d, %d", start, e, at, we, wat)
	}
	if n == 0 {
		return
	}
	for _, token := range tokens {
		tryAll(t, start+token, tokens, n-1)
	}
}

func TestCheckAgainstModel(t *testing.T) {
	tryAll(t, "", []string{"{+a}", "{+b}", "{-}", "{x}", "{?x}", "{:}", "{/}", "{*r}", "{>a}", "{>b}", "x", "{", "}"}, 4)
	tryAll(t, "{+a}{?x}", []string{"{+b}{>b}", "{-}", "{?x}", "{:}", "{/}", "{*r}"}, 6)
	tryAll(t, "{+a}"+strings.Repeat("{?x}", 6), []string{"{?x}", "{:}", "{/}", "{*r}", "{/}{/}{/}{/}{/}{/}{-}"}, 5)
	tryAll(t, "{+a}", []string{"{", "}", "a", "+", "-", ":", "/", ">", "?"}, 5)
	tryAll(t, "{+c}{-}{+d}{-}{+e}{-}", []string{"{+a}", "{-}", "{+b}{-}", "{>a}", "{>c}", "{+e}{-}", "{+g}{>b}{-}"}, 5)
}
