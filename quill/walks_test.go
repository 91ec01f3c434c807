package quill_test

import (
	"fmt"
	"strings"
	"testing"

	"quill/api"
	"quill/quill"
)

// walksLine: Walks' answer in one line: its uses as place:context, or its error.
func walksLine(src, name string) string {
	l, e := quill.Walks(src, name)
	return usesLine(l, e)
}

func usesLine(l []api.Use, e api.Errno) string {
	if e != api.OK {
		return fmt.Sprint("error ", e, " ", l)
	}
	var words []string
	for _, u := range l {
		name := "none"
		if u.Context >= 0 && u.Context < len(contextNames) {
			name = contextNames[u.Context]
		}
		words = append(words, fmt.Sprint(u.At, ":", name))
	}
	return strings.Join(words, " ")
}

// refused: how usesLine writes ErrContext.
const refused = "error 6 []"

type walkCase struct{ src, want string }

func tryWalks(t *testing.T, cases []walkCase) {
	t.Helper()
	for _, c := range cases {
		if got := walksLine(c.src, "a"); got != c.want {
			t.Errorf("P6: Walks(%q, a): %s, want %s", c.src, got, c.want)
		}
	}
}

func TestWalksExamples(t *testing.T) {
	for _, c := range []walkCase{
		{`Hello {x}!`, "13:Text"}, {`<a u="{x}" t="{x}">`, "13:Link 21:Value"}, {`<s>f({x}, '{x}')</s>`, "12:Code 18:Quote"},
		{`<b {x}>`, refused}, {`{?x}<a u="{:}<a t="{/}{y}">`, refused}, {`{*r}<b>{x}</b>{/}`, "14:Text"}, {`{*r}<b {/}>`, refused},
		{`a{>main}`, ""}, {`<a`, refused}, {`<1`, ""}, {`<a 1>`, refused},
	} {
		src := "{+main}" + c.src + "{-}"
		if got := walksLine(src, "main"); got != c.want {
			t.Errorf("P6: Walks(%q, main): %s, want %s", src, got, c.want)
		}
	}
	tryWalks(t, []walkCase{{`{+a}<p t="{>b}">{>b}{-}{+b}{x}{-}`, "27:Text 27:Value"}})
}

// TestWalksHolesInEveryContext: a hole behind a text that leads into each context.
func TestWalksHolesInEveryContext(t *testing.T) {
	into := map[int]string{
		api.Text: "", api.Less: "<", api.Close: "</", api.Name: "<b", api.NameS: "<s", api.Gap: "<b ", api.GapS: "<s ", api.Attr: "<b t", api.AttrS: "<s t",
		api.AttrU: "<b u", api.AttrUS: "<s u", api.Equal: "<b t=", api.EqualS: "<s t=", api.EqualU: "<b u=", api.EqualUS: "<s u=", api.Value: `<b t="`,
		api.ValueS: `<s t="`, api.Link: `<b u="`, api.LinkS: `<s u="`, api.Code: "<s>", api.CodeLess: "<s><", api.Quote: "<s>'", api.QuoteEsc: `<s>'\`, api.QuoteLs: "<s>'<",
	}
	out := map[int]string{api.Text: "", api.Value: `">`, api.ValueS: `"></s>`, api.Link: `">`, api.LinkS: `"></s>`, api.Code: "</s>", api.Quote: "'</s>"}
	for context := 0; context < api.Contexts; context++ {
		if quill.Scan(api.Text, into[context]) != context {
			t.Fatalf("%q leads elsewhere than into %s", into[context], contextNames[context])
		}
		want := refused
		if _, open := out[context]; open {
			want = fmt.Sprint(4+len(into[context]), ":", contextNames[context])
		}
		tryWalks(t, []walkCase{{body(into[context] + "{x}" + out[context]), want}})
		// A page must end in Text, whatever it holds.
		want = refused
		if context == api.Text {
			want = ""
		}
		tryWalks(t, []walkCase{{body(into[context]), want}})
	}
}

func TestWalksChoices(t *testing.T) {
	tryWalks(t, []walkCase{
		{body(`{?x}{y}{:}{z}{/}{w}`), "8:Text 14:Text 20:Text"}, {body(`{?x}{y}{/}{w}`), "8:Text 14:Text"}, {body(`{?x}{/}{?x}{:}{/}`), ""},
		{body(`<p {?x}t="{y}"{:}u="{z}"{/}>`), "14:Value 24:Link"}, {body(`<p {?x}t="{:}t="{/}{y}">`), "23:Value"}, {body(`{?x}<a{:}<b{/}>`), ""},
		{body(`{?x}{?y}<a u="{:}<b u="{/}{:}<c u="{/}{z}">`), "42:Link"},
		// Different behind the choice, whether or not something stands there, or matters there.
		{body(`{?x}<a u="{:}<a t="{/}{y}">`), refused}, {body(`{?x}<b{/}>`), refused}, {body(`{?x}{:}<b{/}>`), refused}, {body(`{?x}<b{:}{/}>`), refused},
		{body(`{?x}<s{:}<b{/}`), refused}, {body(`{?x}</{:}</b{/}>`), ""}, {body(`{?x}<a {:}<a b{/}>`), refused}, {body(`<s>{?x}'{/}'</s>`), refused},
		// In one that lies within another the difference is one too, though all ways end alike further on.
		{body(`{?x}{?y}<b>{:}<b{/}>{/}`), refused}, {body(`{?x}{?y}<{/}/b>{/}`), refused}, {body(`{?x}{*r}{?y}</{:}<b {/}>{/}{/}`), refused},
		// Lost on one way alone, or at a hole on one way alone.
		{body(`{?x}{:}<b "{/}`), refused}, {body(`{?x}<b ">{:}{/}`), refused}, {body(`{?x}<b {y}>{/}`), refused}, {body(`{?x}{:}<b {y}>{/}`), refused},
	})
}

func TestWalksLoops(t *testing.T) {
	tryWalks(t, []walkCase{
		{body(`{*r}{/}{x}`), "11:Text"}, {body(`{*r}{x}{/}{x}`), "8:Text 14:Text"}, {body(`<a u="{*r}{x}/{/}{y}">`), "14:Link 21:Link"},
		{body(`<p {*r}t="{x}" {/}>`), "14:Value"}, {body(`<s>'{*r}{x}','{/}'</s>`), "12:Quote"}, {body(`<p{*r}b{/}>`), ""}, {body(`{*r}{?x}<b>{:}</b>{/}{y}{/}`), "25:Text"},
		// What one time through leaves is where the next begins.
		{body(`{*r}<b {/}>`), refused}, {body(`{*r}<{/}`), refused}, {body(`<p{*r} {/}>`), refused}, {body(`<p {*r}t{/}>`), refused}, {body(`<p {*r}t="{x}{/}">`), refused},
		{body(`{*r}{*r}<{/}{/}`), refused}, {body(`{*r}"{/}`), ""}, {body(`<p t="{*r}" t="{/}">`), ""}, {body(`<p t="{*r}{x}" u="{/}">`), refused},
		// Two times through would lead back, but one does not.
		{body(`<s>{*r}'{/}</s>`), refused}, {body(`<s>{*r}{>b}{/}</s>`) + "{+b}'{-}", refused},
	})
}

func TestWalksCalls(t *testing.T) {
	tryWalks(t, []walkCase{
		{`{+a}{>b}{-}{+b}{x}{-}`, "15:Text"}, {`{+b}{x}{-}{+a}<p t="{>b}">{-}`, "4:Value"}, {`{+a}{>b}{x}">{-}{+b}<p u="{-}`, "8:Link"},
		{`{+a}{>b}{>c}{-}{+b}<s>{-}{+c}{x}</s>{-}`, "29:Code"}, {`{+a}{>b}{-}{+b}{>c}{-}{+c}{>d}{-}{+d}{>e}{-}{+e}{>f}{-}{+f}{x}{-}`, "59:Text"},
		// One hole in many contexts: by rising contexts, each once, in whatever order walks come to it.
		{`{+a}<s t="{>b}" u="{>b}">'{>b}'{>b}</s><p u="{>b}" t="{>b}">{>b}{>b}{-}{+b}{x}{-}`, "75:Text 75:Value 75:ValueS 75:Link 75:LinkS 75:Code 75:Quote"},
		{`{+a}<s>{>b}</s>{>b}{-}{+b}{x}{y}{-}`, "26:Text 26:Code 29:Text 29:Code"},
		// From two contexts to one hole in one.
		{`{+a}<p t="{>b}">{>c}{-}{+b}">{>c}<p t="{-}{+c}{x}{-}`, "46:Text"}, {`{+a}<p {>b}>{>c}{-}{+b}t="{>d}"{-}{+c}<p t="{>d}">{-}{+d}{x}{-}`, "57:Value"},
		{`{+a}<p {>b}><p{>b}>{-}{+b} t="{x}"{-}`, "30:Value"},
		// By places, though walks come to the later one first.
		{`{+b}{x}{-}{+a}{y}{>b}{z}{-}`, "4:Text 14:Text 21:Text"},
		// Walks that begin in different contexts may differ at a place; those that begin in the same may not.
		{`{+a}{>b}<p t="{>b}">{-}{+b}{?x}{/}{-}`, ""}, {`{+a}{>b}<p t="{>b}">{-}{+b}{?x}"{:}{/}{-}`, refused}, {`{+a}<p>{>b}<p {>b}>{-}{+b}{?x}u{:}a{/}{-}`, refused},
		// What is wrong with one of a template's contexts alone.
		{`{+a}{>b}<p {>b}>{-}{+b}{x}{-}`, refused}, {`{+a}{>b}<p {>b}>{-}{+b}={-}`, refused}, {`{+a}{>b}<p t="{>b}>{-}{+b}"{-}`, ""}, {`{+a}{>b}<p t{>b}>{-}{+b}"{-}`, refused},
		// A call's end is where one goes on.
		{`{+a}{>b}{-}{+b}<p t="{-}`, refused}, {`{+a}{?x}{>b}{:}<p t="{/}{x}">{-}{+b}<p t="{-}`, "24:Value"}, {`{+a}{?x}{>b}{:}<p u="{/}{x}">{-}{+b}<p t="{-}`, refused},
		{`{+a}{*r}{>b}{/}{-}{+b}<{-}`, refused}, {`{+a}{*r}{>b}{/}{-}{+b}<b>{x}{-}`, "25:Text"}, {`{+a}{>b}{>b}{-}{+b}<{-}`, refused},
		// What no walk calls is in nobody's way.
		{`{+a}{x}{-}{+b}<b {x}{-}{+c}<b "{>b}{-}`, "4:Text"},
	})
}

func TestWalksThatCallThemselves(t *testing.T) {
	tryWalks(t, []walkCase{
		{body(`{>a}`), ""}, {body(`a{>a}`), ""}, {body(`{>a}{x}`), ""}, {body(`{x}{>a}{y}`), "4:Text"}, {body(`{?x}{>a}{/}{y}`), "15:Text"}, {body(`{?x}{>a}{y}{:}{z}{/}{w}`), "12:Text 18:Text 24:Text"},
		// Behind what never ends nothing is wrong, and nothing is filled.
		{body(`{>a}<b "{x}`), ""}, {body(`{x}{>a}<b {y}`), "4:Text"}, {body(`{?x}{>a}<b {y}{:}{>a}{/}<`), ""}, {body(`{*r}{>a}{x}{/}{y}`), "12:Text 18:Text"},
		{`{+a}{?x}{>b}<{/}{y}{-}{+b}{>b}{-}`, "16:Text"}, {`{+a}{?x}{:}{>b}<{/}{y}{-}{+b}{>b}{-}`, "19:Text"}, {`{+a}{?x}{>b}{:}{>b}{/}{y}<{-}{+b}{>b}{-}`, ""},
		{`{+a}{*r}{>b}<{/}{y}{-}{+b}{>b}{-}`, "16:Text"}, {`{+a}{>b}{-}{+b}{>a}{x}{-}`, ""}, {`{+a}{>b}<{-}{+b}x{>c}{-}{+c}{>b}{-}`, ""},
		// But ahead of it, and in it, all counts.
		{body(`<b {x}>{>a}`), refused}, {body(`<b ">{>a}`), refused}, {body(`{?x}<b{/}{>a}`), refused}, {`{+a}<b {>b}{-}{+b}{x}{>b}{-}`, refused}, {`{+a}<p t="{>b}{-}{+b}{x}{>b}{-}`, "21:Value"},
		// Each time deeper in another context, until it is lost or comes back.
		{body(`{?x}<b{>a}{/}`), refused}, {`{+a}<{>b}{-}{+b}b{>b}{-}`, ""}, {`{+a}<{>b}{-}{+b}b {>b}{-}`, ""}, {`{+a}<{>b}{-}{+b}b ={>b}{-}`, refused}, {`{+a}{>b}{-}{+b}<a t="{x}{>b}{-}`, refused},
		{`{+a}<b t="{>b}{-}{+b}" u="{x}{>b}{-}`, "26:Link"}, {`{+a}{>b}{-}{+b}{x}<b t="{>c}{-}{+c}{y}">{>b}{-}`, "15:Text 35:Value"}, {`{+a}<b t="{>b}{-}{+b}{x}" u="{>b}{-}`, "21:Value 21:Link"},
		{`{+a}<{>b}{-}{+b}s>{?x}'{/}{>b}{-}`, refused}, {`{+a}<s t="{>b}{-}{+b}{x}"></s><s u="{>b}{-}`, "21:ValueS 21:LinkS"},
		// What a call leads to is known only once its template ends in another way.
		{`{+a}{>b}{x}{-}{+b}{?x}{>b}{:}{>c}{/}{-}{+c}{?x}{>b}{/}{-}`, "8:Text"}, {`{+a}{>b}{x}">{-}{+b}{?x}{>b}{:}<p t="{/}{-}`, "8:Value"},
		{`{+a}<b t="{>b}{-}{+b}{?x}{>b}{y}{:}">{/}{-}`, "29:Text"}, {`{+a}<b t="{>b}{-}{+b}{?x}{>b}<b {y}>{:}">{/}{-}`, refused}, {`{+a}<b t="{>b}{-}{+b}{?x}{>b}{:}">{/}{-}`, ""}, {`{+a}<b t="{>b}{-}{+b}{?x}{>b}<b t="{>b}{:}">{/}{-}`, ""},
		{`{+a}{>b}{-}{+b}{?x}{>a}<{/}{y}{-}`, refused}, {`{+a}{?x}<b t="{>b}">{/}{-}{+b}{?y}{>b}"{/}{-}`, refused}, {`{+a}{?x}{>b}{/}{-}{+b}{?x}{>a}{:}<b{>b}{/}{-}`, refused},
	})
}

// TestWalksLastWord: an end that becomes known last of all, through calls of calls, still counts.
func TestWalksLastWord(t *testing.T) {
	chain := `{-}{+b}{?x}{>c}{:}{>b}{/}{-}{+c}{?x}{>d}{:}{>c}{/}{-}{+d}{?x}{>e}{:}{>d}{/}{-}{+e}{?x}{>f}{:}{>e}{/}{-}{+f}`
	tryWalks(t, []walkCase{
		{`{+a}{>b}{x}` + chain + `{?x}{:}{>f}{/}{-}`, "8:Text"}, {`{+a}{>b}{x}` + chain + `{>f}{-}`, ""}, {`{+a}{>b}{x}` + chain + `<{-}`, refused},
		{`{+a}{>b}` + chain + `<{-}`, refused}, {`{+a}{>b}{x}` + chain + `<{>f}{-}`, ""}, {`{+a}{>b}{x}` + chain + `<b "{>f}{-}`, refused},
	})
}

func TestWalksNoHole(t *testing.T) {
	for _, s := range []string{"", "x", "<b></b>", "{?x}{/}", "{*r}<b>{/}", "{>a}", "{?x}{>a}{/}"} {
		if l, e := quill.Walks(body(s), "a"); len(l) != 0 || e != api.OK {
			t.Errorf("P6: Walks(%q, a) = %v, %d, want nothing", body(s), l, e)
		}
	}
}

func TestWalksErrors(t *testing.T) {
	for _, c := range []struct {
		src, name string
		e         api.Errno
	}{
		{"", "a", api.ErrSyntax}, {"", "", api.ErrSyntax}, {"x", "a", api.ErrSyntax}, {"{+a}{x}", "a", api.ErrSyntax}, {"{+a}{x}{-}}", "z", api.ErrSyntax}, {"{+a}<b {x}{-}{", "a", api.ErrSyntax},
		{strings.Repeat("{", 401), "a", api.ErrLong}, {body(strings.Repeat("<", 394)), "a", api.ErrLong}, {body(strings.Repeat("<", 393)), "a", api.ErrContext},
		{"{+a}{-}{+a}{-}", "z", api.ErrTwice}, {"{+a}<b {-}{+a}{>z}{-}", "a", api.ErrTwice}, {"{+a}{>z}{-}", "a", api.ErrName}, {"{+a}{-}{+b}{>z}{-}", "a", api.ErrName},
		{"{+a}<b {x}{-}", "", api.ErrName}, {"{+a}<b {x}{-}", "b", api.ErrName}, {"{+a}{x}{-}", "x", api.ErrName}, {"{+a}{-}", "A", api.ErrName}, {"{+a}{-}", "aa", api.ErrName}, {"{+a}{-}", "a ", api.ErrName}, {"{+a}{-}", "{+a}", api.ErrName},
		{"{+ab}{-}", "a", api.ErrName}, {"{+a}{-}", strings.Repeat("a", 1000000), api.ErrName}, {"{+a}<b {x}{-}", "a", api.ErrContext}, {"{+a}<b {x}{-}{+b}{-}", "b", api.OK},
	} {
		if l, e := quill.Walks(c.src, c.name); e != c.e || len(l) != 0 {
			t.Errorf("P6: Walks(%.40q, %.40q) = %v, %d, want %d", c.src, c.name, l, e, c.e)
		}
	}
}

// TestWalksOtherNames: the template named is the one that is walked through from Text.
func TestWalksOtherNames(t *testing.T) {
	src := `{+a}<p t="{>c}">{-}{+b}{>c}{-}{+c}{x}{-}{+dddddddd}<{-}`
	for name, want := range map[string]string{"a": "34:Value", "b": "34:Text", "c": "34:Text", "dddddddd": refused, "d": "error 4 []"} {
		if got := walksLine(src, name); got != want {
			t.Errorf("P6: Walks(%q, %s): %s, want %s", src, name, got, want)
		}
	}
}

// TestWalksOwn: writing into a list and its spare room changes nothing that comes out later.
func TestWalksOwn(t *testing.T) {
	sources := []string{body("{x}{y}{z}"), body(`<p t="{x}">{*r}{y}{/}`), `{+a}<p t="{>b}">{>b}{-}{+b}{x}{-}`, body("")}
	for _, src := range sources {
		first, _ := quill.Walks(src, "a")
		second, _ := quill.Walks(src, "a")
		want := usesLine(second, api.OK)
		room := first[:cap(first)]
		for i := range room {
			room[i] = api.Use{At: 99, Context: 99}
		}
		if got := usesLine(second, api.OK); got != want {
			t.Errorf("P2: of %q a list became %s, was %s", src, got, want)
		}
		if got := walksLine(src, "a"); got != want {
			t.Errorf("P2: of %q behind a list that was written into: %s, want %s", src, got, want)
		}
	}
}
