package quill_test

import (
	"fmt"
	"strings"
	"testing"

	"quill/api"
	"quill/quill"
)

func textField(name, s string) api.Field { return api.Field{Name: name, Text: s} }

func listField(name string, rows ...api.Row) api.Field {
	return api.Field{Name: name, List: true, Rows: rows}
}

func rowOf(fields ...api.Field) api.Row { return api.Row{Fields: fields} }

// x: a row with one text, x.
func x(s string) api.Row { return rowOf(textField("x", s)) }

// manyRows: a list of n rows, each with the text "1" as x.
func manyRows(name string, n int) api.Field {
	f := listField(name)
	for range n {
		f.Rows = append(f.Rows, x("1"))
	}
	return f
}

var bothWays = []int{api.Tracked, api.Fixed}

// renderLine: Render's answer in one line: the page in quotes, or its error and what stands beside it.
func renderLine(way int, src, name string, data api.Row) string {
	s, e := quill.Render(way, src, name, data)
	if e != api.OK {
		return strings.TrimSpace(fmt.Sprint("error ", e, " ", s))
	}
	return fmt.Sprintf("%q", s)
}

func errorLine(e api.Errno) string { return fmt.Sprint("error ", e) }

type pageCase struct {
	src  string
	data api.Row
	want string
}

// tryPages: the template a is made into the page wanted, both ways.
func tryPages(t *testing.T, cases []pageCase) {
	t.Helper()
	for _, c := range cases {
		for _, way := range bothWays {
			if got, want := renderLine(way, c.src, "a", c.data), fmt.Sprintf("%q", c.want); got != want {
				t.Errorf("P7: Render(%d, %q, a, %.200v) = %.200s, want %.200s", way, c.src, c.data, got, want)
			}
		}
	}
}

type renderErrorCase struct {
	src            string
	data           api.Row
	tracked, fixed api.Errno
}

// tryRenderErrors: the template a is refused for the reasons wanted.
func tryRenderErrors(t *testing.T, cases []renderErrorCase) {
	t.Helper()
	for _, c := range cases {
		for _, way := range bothWays {
			want := errorLine([]api.Errno{c.tracked, c.fixed}[way])
			if got := renderLine(way, c.src, "a", c.data); got != want {
				t.Errorf("P7: Render(%d, %q, a, %.200v) = %.200s, want %s", way, c.src, c.data, got, want)
			}
		}
	}
}

// stepsOf: how many steps a page takes, told by how many more may be done ahead of it; -1, if it can't be made.
func stepsOf(way int, src string, data api.Row) int {
	padded := strings.Replace(src, "{+a}", "{+a}{*pad}{/}", 1)
	for n := 499; n >= 0; n-- {
		d := rowOf(append([]api.Field{manyRows("pad", n)}, data.Fields...)...)
		if _, e := quill.Render(way, padded, "a", d); e == api.OK {
			return 500 - 1 - n
		}
	}
	return -1
}

func TestRenderExamples(t *testing.T) {
	rows := rowOf(listField("r", x("1"), x("<")))
	for _, c := range []struct {
		body           string
		data           api.Row
		tracked, fixed string
	}{
		{`Hello {x}!`, x(`<b> & "c"`), `Hello &lt;b&gt; &amp; "c"!`, ""}, {`<a u="{x}" t="{x}">`, x(`a b"/`), `<a u="a%20b%22/" t="a b&quot;/">`, ""},
		{`<s>f({x}, '{x}')</s>`, x(`it's </s>`), `<s>f('it\x27s \x3c/s\x3e', 'it\x27s \x3c/s\x3e')</s>`, ""},
		{`{*r}<b>{x}</b>{/}`, rows, `<b>1</b><b>&lt;</b>`, ""}, {`<1`, x("1"), `<1`, ""},
		{`{?x}<a u="{:}<a t="{/}{y}">`, rowOf(textField("x", "1"), textField("y", "&")), `<a u="%26">`, "error 6"},
		{`{?x}<a u="{:}<a t="{/}{y}">`, rowOf(textField("x", ""), textField("y", "&")), `<a t="&amp;">`, "error 6"},
		{`<b {x}>`, x("1"), "error 10", "error 6"}, {`<a`, x("1"), "error 11", "error 6"}, {`<a 1>`, x("1"), "error 9", "error 6"}, {`a{>main}`, x("1"), "error 12", "error 12"},
		{`{*r}<b {/}>`, rowOf(listField("r", rowOf())), `<b >`, "error 6"}, {`{*r}<b {/}>`, rowOf(listField("r")), `>`, "error 6"}, {`{*r}<b {/}>`, rows, "error 9", "error 6"},
	} {
		if c.fixed == "" {
			c.fixed = c.tracked
		}
		for way, want := range []string{c.tracked, c.fixed} {
			if !strings.HasPrefix(want, "error ") {
				want = fmt.Sprintf("%q", want)
			}
			if got := renderLine(way, "{+main}"+c.body+"{-}", "main", c.data); got != want {
				t.Errorf("P7: Render(%d, %q) with %v = %s, want %s", way, c.body, c.data, got, want)
			}
		}
	}
	for _, way := range bothWays {
		if n := stepsOf(way, body(`{*r}<b>{x}</b>{/}`), rows); n != 5 {
			t.Errorf("P8: %d steps, want 5", n)
		}
	}
	tryPages(t, []pageCase{{`{+a}<p t="{>b}">{>b}{-}{+b}{x}{-}`, x(`"<`), `<p t="&quot;&lt;">"&lt;`}})
}

func TestRenderText(t *testing.T) {
	tryPages(t, []pageCase{
		{body(""), rowOf(), ""}, {body("just <b>text</b>"), rowOf(), "just <b>text</b>"}, {body("a\n\x00\xff&\"'\\"), rowOf(), "a\n\x00\xff&\"'\\"}, {body("<1 < <<b>> a"), rowOf(), "<1 < <<b>> a"},
		{"{+b}no{-}{+a}yes{-}{+c}no{-}", rowOf(), "yes"}, {body("<s t=\"\n\">'\\'' < '</s>"), rowOf(), "<s t=\"\n\">'\\'' < '</s>"},
	})
}

// TestRenderHoles: one text in each context that is open, written as Escape has it, ahead of more that follows the same context.
func TestRenderHoles(t *testing.T) {
	frames := map[int][2]string{api.Text: {"", ""}, api.Value: {`<p t="`, `">`}, api.ValueS: {`<s t="`, `"></s>`}, api.Link: {`<p u="`, `">`}, api.LinkS: {`<s u="`, `"></s>`}, api.Code: {"<s>", "</s>"}, api.Quote: {"<s>'", "'</s>"}}
	for context, frame := range frames {
		if quill.Scan(api.Text, frame[0]) != context {
			t.Fatalf("%q leads elsewhere than into %d", frame[0], context)
		}
		for _, s := range []string{"", "x", everyByte(), "</s>", "'", `\`, `"`, "{x}", "{-}", "{", "}"} {
			one := modelEscape(context, s)
			tryPages(t, []pageCase{
				{body(frame[0] + "{x}" + frame[1]), x(s), frame[0] + one + frame[1]},
				{body(frame[0] + "{x}{x}" + frame[1] + "{x}"), x(s), frame[0] + one + one + frame[1] + modelEscape(api.Text, s)},
			})
		}
	}
}

func TestRenderChoices(t *testing.T) {
	odd := func(list bool, s string, rows ...api.Row) api.Row {
		return rowOf(api.Field{Name: "x", List: list, Text: s, Rows: rows})
	}
	tryPages(t, []pageCase{
		{body("{?x}1{:}2{/}3"), x("a"), "13"}, {body("{?x}1{:}2{/}3"), x(""), "23"}, {body("0{?x}1{/}3"), x("a"), "013"}, {body("0{?x}1{/}3"), x(""), "03"},
		{body("{?x}1{:}2{/}"), x("0"), "1"}, {body("{?x}1{:}2{/}"), x(" "), "1"}, {body("{?x}1{:}2{/}"), x("\x00"), "1"},
		{body("{?x}1{:}2{/}"), rowOf(listField("x")), "2"}, {body("{?x}1{:}2{/}"), rowOf(listField("x", rowOf())), "1"}, {body("{?x}1{:}2{/}"), rowOf(listField("x", x(""), x(""))), "1"},
		// Of a list the text means nothing, of a text the rows.
		{body("{?x}1{:}2{/}"), odd(true, "a"), "2"}, {body("{?x}1{:}2{/}"), odd(false, "", rowOf()), "2"}, {body("{?x}1{:}2{/}"), odd(true, "", rowOf()), "1"}, {body("{?x}1{:}2{/}"), odd(false, "a"), "1"}, {body("{x}"), odd(false, "a", x("b")), "a"}, {body("{*x}{y}{/}"), odd(true, "a", rowOf(textField("y", "b"))), "b"},
		// In one another, and one behind the other.
		{body("{?x}{?y}1{:}2{/}{:}3{/}4"), rowOf(textField("x", "a"), textField("y", "")), "24"}, {body("{?x}1{:}{?y}2{:}3{/}4{/}5"), rowOf(textField("x", ""), textField("y", "a")), "245"},
		{body("{?x}{?x}1{/}{?x}2{:}3{/}4{:}{?x}5{:}6{/}7{/}8"), x("a"), "1248"}, {body("{?x}{?x}1{/}{?x}2{:}3{/}4{:}{?x}5{:}6{/}7{/}8"), x(""), "678"},
		{body("{?x}{*r}{?x}1{:}2{/}{/}{:}3{/}"), rowOf(textField("x", "a"), listField("r", x(""), x("b"), rowOf())), "211"}, {body("{?x}{/}{?x}{:}{/}"), x("a"), ""}, {body("{?x}{/}{?x}{:}{/}"), x(""), ""},
		{body(strings.Repeat("{?x}", 8) + "1" + strings.Repeat("{:}2{/}", 8)), x("a"), "1"}, {body(strings.Repeat("{?x}", 8) + "1" + strings.Repeat("{:}2{/}", 8)), x(""), "2"},
		// The row one is in is the same within.
		{body("{*r}{?x}{x}{/}{/}"), rowOf(textField("x", "0"), listField("r", x("1"), rowOf(), x(""))), "10"},
		// On the way that is not gone nothing is looked for.
		{body("{?x}{z}{*z}{/}{?z}{/}{:}2{/}"), x(""), "2"}, {body("{?x}1{:}{z}{*x}{/}{/}"), x("a"), "1"},
	})
}

func TestRenderLoops(t *testing.T) {
	tryPages(t, []pageCase{
		{body("{*r}{x},{/}."), rowOf(listField("r", x("1"), x("<"), x("3"))), "1,&lt;,3,."}, {body("{*r}{x}{/}."), rowOf(listField("r")), "."}, {body("{*r}{/}"), rowOf(listField("r", x("1"))), ""}, {body("{*r}a{/}"), rowOf(listField("r", rowOf(), rowOf())), "aa"},
		{body(`<a u="{*r}{x},{/}">`), rowOf(listField("r", x("&"), x("b"))), `<a u="%26,b,">`}, {body("{*r}{*q}{x}{/};{/}"), rowOf(listField("r", rowOf(listField("q", x("1"), x("2"))), rowOf(listField("q")))), "12;;"},
		// In a loop over no row nothing is looked for.
		{body("{*r}{z}{*z}{/}{/}"), rowOf(listField("r")), ""}, {body("{*r}1{/}{*r}2{/}"), rowOf(listField("r", rowOf(), rowOf())), "1122"},
	})
}

func TestRenderRowsWithinRows(t *testing.T) {
	named := func(s string, fields ...api.Field) api.Row { return rowOf(append(fields, textField("x", s))...) }
	deep := named("0", textField("y", "9"), listField("r", named("1", listField("q", named("2"), rowOf(), rowOf(textField("y", "8")))), rowOf(listField("q", rowOf()))))
	tryPages(t, []pageCase{
		{body("{x}{*r}{x}{*q}{x}{y}{/}{x}{/}{x}"), deep, "0" + "1" + "29" + "19" + "18" + "1" + "0" + "09" + "0" + "0"},
		// The row that lies around is the one in which the loop is met, wherever its list was found.
		{body("{*r}{*q}{x}{/}{/}"), rowOf(textField("x", "0"), listField("q", rowOf()), listField("r", x("1"), rowOf())), "10"}, {body("{*r}{*r}{x}{/}{/}"), rowOf(listField("r", x("1"), x("2"))), "1212"},
		{body("{*r}{*r}{x}{/}{/}"), rowOf(listField("r", named("9", listField("r", x("1"), x("2"))))), "12"},
		// A field that is empty is one all the same.
		{body("{*r}{x}{/}"), rowOf(textField("x", "0"), listField("r", x(""))), ""}, {body("{*r}{?x}1{:}2{/}{/}"), rowOf(textField("x", "0"), listField("r", x(""), rowOf())), "21"}, {body("{*r}{*r}1{/}2{/}"), rowOf(listField("r", rowOf(listField("r")))), "2"},
		// Behind a row one is not in it any more.
		{body("{*r}{?y}1{:}2{/}{/}{y}"), rowOf(textField("y", ""), listField("r", rowOf(textField("y", "a")), rowOf())), "12"},
		// In a template that is called one is in the row of the call.
		{"{+a}{>b}{*r}{>b}{*q}{>b}{/}{>b}{/}{>b}{-}{+b}{x}{-}", deep, "0" + "1" + "211" + "1" + "0" + "0" + "0" + "0"}, {"{+b}{*q}{>c}{/}{-}{+c}{x}{y}{-}{+a}{*r}{>b}{/}{-}", deep, "29" + "19" + "18" + "09"},
	})
	tryRenderErrors(t, []renderErrorCase{
		// A row's fields are not found behind it, nor those of a row that lies within.
		{body("{*r}{y}{/}{y}"), rowOf(listField("r", rowOf(textField("y", "1")))), api.ErrField, api.ErrField}, {body("{*r}{y}{/}"), rowOf(listField("r", rowOf(textField("y", "1")), rowOf())), api.ErrField, api.ErrField}, {body("{y}"), rowOf(listField("r", rowOf(textField("y", "1")))), api.ErrField, api.ErrField},
		// The innermost that has the name counts, though it is of the other kind.
		{body("{*r}{x}{/}"), rowOf(textField("x", "0"), listField("r", rowOf(listField("x")))), api.ErrKind, api.ErrKind}, {body("{*r}{*q}{/}{/}"), rowOf(listField("q"), listField("r", rowOf(textField("q", "")))), api.ErrKind, api.ErrKind},
	})
}

func TestRenderFieldsOfOneName(t *testing.T) {
	first := rowOf(textField("y", "0"), textField("x", "1"), listField("x", rowOf()), textField("x", "3"))
	second := rowOf(listField("x", rowOf(textField("y", "0")), rowOf(textField("y", "1"))), textField("x", "2"))
	tryPages(t, []pageCase{
		{body("{x}"), first, "1"}, {body("{?x}{x}{/}{y}"), first, "10"}, {body("{*x}{y}{/}"), second, "01"}, {body("{?x}1{:}2{/}"), rowOf(textField("x", ""), textField("x", "1")), "2"}, {body("{?x}1{:}2{/}"), rowOf(listField("x"), textField("x", "1")), "2"},
		{body("{*r}{x}{/}"), rowOf(textField("x", "0"), listField("r", rowOf(textField("x", "1"), textField("x", "2")))), "1"},
	})
	tryRenderErrors(t, []renderErrorCase{{body("{*x}{/}"), first, api.ErrKind, api.ErrKind}, {body("{x}"), second, api.ErrKind, api.ErrKind}})
}

// TestRenderFieldNames: a field is found by its whole name alone, be it one that no source can ask for.
func TestRenderFieldNames(t *testing.T) {
	odd := []api.Field{textField("", "1"), textField("X", "2"), textField("xx", "3"), textField("x ", "4"), textField("\x00", "5"), textField("{x}", "6"), textField("xxxxxxxxx", "7"), textField("xxxxxxxx", "8")}
	tryPages(t, []pageCase{{body("{xx}{xxxxxxxx}"), rowOf(odd...), "38"}, {body("{a}{*r}{r}{/}"), rowOf(append(odd, textField("a", "9"), listField("r", rowOf(textField("r", "0"))))...), "90"}})
	tryRenderErrors(t, []renderErrorCase{{body("{x}"), rowOf(odd...), api.ErrField, api.ErrField}, {body("{xxx}"), rowOf(odd...), api.ErrField, api.ErrField}, {body("{a}"), rowOf(odd...), api.ErrField, api.ErrField}})
}

func TestRenderCalls(t *testing.T) {
	d := rowOf(textField("x", `"&`), textField("y", ""), listField("r", x("1"), x("2")))
	tree := func(s string, rows ...api.Row) api.Row { return rowOf(textField("x", s), listField("r", rows...)) }
	tryPages(t, []pageCase{
		{`{+a}{>b}<p t="{>b}">{>b}{-}{+b}{x}{-}`, d, `"&amp;<p t="&quot;&amp;">"&amp;`}, {`{+a}{>b}{>c}{-}{+b}<p t="{x}{-}{+c}{x}">{-}`, d, `<p t="&quot;&amp;&quot;&amp;">`}, {"{+b}{x}{-}{+a}{*r}{>b},{/}{-}", d, "1,2,"},
		{"{+a}{>b}1{-}{+b}{>c}2{>c}{-}{+c}3{>d}{-}{+d}{>e}{-}{+e}{>f}4{-}{+f}{x}{-}", d, `3"&amp;423"&amp;41`}, {"{+a}1{>b}2{-}{+b}{-}", d, "12"},
		// Templates that call themselves, and come to an end.
		{"{+a}{x}{?r}<b>{*r}{>a}{/}</b>{/}{-}", tree("1", tree("2", tree("3")), tree("<"), tree("4", tree("5"), tree("6"))), "1<b>2<b>3</b>&lt;4<b>56</b></b>"},
		{"{+a}{x}{*r}{>b}{/}{-}{+b}({>a}){-}", tree("1", tree("2", tree("3")), tree("4")), "1(2(3))(4)"}, {"{+a}{?y}{>a}{:}1{/}{-}", d, "1"}, {"{+a}{*y}{>a}{/}{-}", rowOf(listField("y")), ""},
	})
	tryRenderErrors(t, []renderErrorCase{
		{body("{>a}"), d, api.ErrSteps, api.ErrSteps}, {body("{?x}{>a}{/}"), d, api.ErrSteps, api.ErrSteps}, {body("{*r}{>a}{/}"), d, api.ErrSteps, api.ErrSteps}, {"{+a}{>b}{-}{+b}{>a}{-}", d, api.ErrSteps, api.ErrSteps}, {body("{>a}{z}"), d, api.ErrSteps, api.ErrSteps}, {body("{>a}<b "), d, api.ErrSteps, api.ErrSteps},
		{body("{z}{>a}"), d, api.ErrField, api.ErrField}, {body("<b{>a}"), d, api.ErrMarkup, api.ErrContext}, {body("12345{>a}"), d, api.ErrOut, api.ErrOut}, {body("1234{>a}"), d, api.ErrOut, api.ErrOut}, {body("123{>a}"), d, api.ErrSteps, api.ErrSteps}, {body(`<p t="{>a}">`), d, api.ErrMarkup, api.ErrContext},
	})
}

func TestRenderErrors(t *testing.T) {
	d := rowOf(textField("x", "1"), textField("e", ""), listField("r", rowOf()), listField("n"))
	odd := rowOf(api.Field{Name: "x", List: true, Text: "1"}, api.Field{Name: "r", Text: "1", Rows: []api.Row{rowOf()}})
	field, kind := api.ErrField, api.ErrKind
	tryRenderErrors(t, []renderErrorCase{
		{body("{y}"), d, field, field}, {body("{?y}{/}"), d, field, field}, {body("{?y}1{:}2{/}"), d, field, field}, {body("{*y}{/}"), d, field, field}, {body("{x}{y}"), d, field, field}, {body("{x}"), rowOf(), field, field}, {body("{x}"), api.Row{Fields: []api.Field{}}, field, field}, {body("{*r}{y}{/}"), d, field, field}, {"{+a}{>b}{-}{+b}{y}{-}", d, field, field},
		{body("{r}"), d, kind, kind}, {body("{n}"), d, kind, kind}, {body("{*x}{/}"), d, kind, kind}, {body("{*e}{/}"), d, kind, kind}, {body("{x}"), odd, kind, kind}, {body("{*r}{/}"), odd, kind, kind}, {body("{*r}{*x}{/}{/}"), d, kind, kind},
		// At one hole: the field, its kind, then the context.
		{body("<b {y}>"), d, field, api.ErrContext}, {body("<b {r}>"), d, kind, api.ErrContext}, {body("<b {x}>"), d, api.ErrHole, api.ErrContext}, {body("<b {e}>"), d, api.ErrHole, api.ErrContext}, {body("<{x}"), d, api.ErrHole, api.ErrContext}, {body("<s><{x}</s>"), d, api.ErrHole, api.ErrContext}, {body(`<s>'\{x}'</s>`), d, api.ErrHole, api.ErrContext}, {body("</{x}>"), d, api.ErrHole, api.ErrContext},
		// Of several pieces: the first that is wrong.
		{body("{y}{r}<b {x}"), d, field, api.ErrContext}, {body("{r}{y}"), d, kind, kind}, {body("<b 1>{y}"), d, api.ErrMarkup, api.ErrContext}, {body("{y}<b 1>"), d, field, api.ErrContext}, {body("<b {?y}{/}1"), d, field, api.ErrContext}, {body("<b {*x}{/}1"), d, kind, api.ErrContext}, {body("<b {>a}"), d, api.ErrMarkup, api.ErrContext},
		{body("<s>'\n"), d, api.ErrMarkup, api.ErrContext}, {body("<b"), d, api.ErrEnd, api.ErrContext}, {body(`<b t="{x}`), d, api.ErrEnd, api.ErrContext}, {body("<"), d, api.ErrEnd, api.ErrContext}, {body("<s>"), d, api.ErrEnd, api.ErrContext}, {body("<s>{x}"), d, api.ErrEnd, api.ErrContext}, {body("</"), d, api.ErrEnd, api.ErrContext}, {body("<{y}"), d, field, api.ErrContext},
		// Where no data lead: nothing to Tracked on the way that is not gone, all the same to Fixed.
		{body("{?x}<b{:}<b 1{/}"), d, api.ErrEnd, api.ErrContext}, {body("{?e}<b{:}<b 1{/}"), d, api.ErrMarkup, api.ErrContext}, {body("{?x}{y}{:}<b 1{/}"), d, field, api.ErrContext},
	})
	// Every context in which a page can end but Text.
	for _, s := range []string{"<", "</", "<b", "<s", "<b ", "<s ", "<b t", "<s t", "<b u", "<s u", "<b t=", "<s t=", "<b u=", "<s u=", `<b t="`, `<s t="`, `<b u="`, `<s u="`, "<s>", "<s><", "<s>'", `<s>'\`, "<s>'<"} {
		tryRenderErrors(t, []renderErrorCase{{body(s), d, api.ErrEnd, api.ErrContext}, {"{+a}{>b}{-}{+b}" + s + "{-}", d, api.ErrEnd, api.ErrContext}})
	}
}

// TestRenderTrackedAlone: what data lead to decides, where the source alone does not.
func TestRenderTrackedAlone(t *testing.T) {
	d := rowOf(textField("x", "1"), textField("e", ""), listField("r", x("<"), x(`"`)), listField("n"))
	for _, c := range []walkCase{
		{body("{?e}<b {y}>{:}{x}{/}"), `"1"`}, {body("{?x}<b>{:}<b{/}"), `"<b>"`}, {body("{*n}<b 1{/}"), `""`}, {body(`<s>{*r}'{/}</s>`), `"<s>''</s>"`}, {body(`{*r}<p t="{x}{x}">{/}{*n}<{/}`), `"<p t=\"&lt;&lt;\"><p t=\"&quot;&quot;\">"`},
		{body(`{*r}{?x}{/}<p t="{x}" {/}>`), "error 9"}, {body(`<p {*r}t="{x}" u="{x}" {/}{?x}{:}<{/}>`), `"<p t=\"&lt;\" u=\"%3C\" t=\"&quot;\" u=\"%22\" >"`}, {"{+a}{>b}{x}{>b}{-}{+b}{?x}{:}<b {/}{-}", `"1"`}, {body(`<p t{?x}="{x}"{/}>`), `"<p t=\"1\">"`},
	} {
		if got := renderLine(api.Tracked, c.src, "a", d); got != c.want {
			t.Errorf("P7: Render(Tracked, %q) = %s, want %s", c.src, got, c.want)
		}
		if got := renderLine(api.Fixed, c.src, "a", d); got != errorLine(api.ErrContext) {
			t.Errorf("P7: Render(Fixed, %q) = %s, want ErrContext", c.src, got)
		}
	}
}

// TestRenderRefusals: what is refused ahead of the page, and what comes first of that.
func TestRenderRefusals(t *testing.T) {
	long := strings.Repeat("y", 401)
	for _, c := range []struct {
		way       int
		src, name string
		want      api.Errno
	}{
		{0, long, "a", api.ErrLong}, {1, long, "a", api.ErrLong}, {2, long, "z", api.ErrLong}, {0, "", "a", api.ErrSyntax}, {1, "{+a}", "a", api.ErrSyntax}, {-1, "{+a}{x}", "z", api.ErrSyntax}, {0, "{+a}{-}}", "a", api.ErrSyntax}, {0, "{+a}{x}{-}{+a}{-}", "a", api.ErrTwice}, {2, "{+a}{-}{+a}{>z}{-}", "z", api.ErrTwice},
		{0, "{+a}{>z}{-}", "a", api.ErrName}, {1, "{+a}{-}{+b}{>z}{-}", "a", api.ErrName}, {2, "{+a}{>z}{-}", "a", api.ErrName},
		{2, "{+a}<{-}", "a", api.ErrArg}, {-1, "{+a}{-}", "z", api.ErrArg}, {1 << 32, "{+a}{-}", "a", api.ErrArg}, {1<<32 + 1, "{+a}{-}", "a", api.ErrArg}, {1<<63 - 1, "{+a}{-}", "a", api.ErrArg}, {-1 << 63, "{+a}{-}", "z", api.ErrArg}, {256, "{+a}{y}{-}", "a", api.ErrArg},
		{0, "{+a}<b {y}{-}", "b", api.ErrName}, {1, "{+a}<b {y}{-}", "b", api.ErrName}, {0, "{+a}{-}", "", api.ErrName}, {1, "{+a}{-}", "A", api.ErrName}, {0, "{+a}{-}", "{+a}", api.ErrName}, {0, "{+a}{x}{-}", "x", api.ErrName}, {1, "{+ab}{-}", "a", api.ErrName}, {0, "{+a}{-}", strings.Repeat("a", 100000), api.ErrName},
		{1, "{+a}{y}<{-}", "a", api.ErrContext}, {0, "{+a}{y}<{-}", "a", api.ErrField}, {1, "{+a}{-}{+b}<{-}", "b", api.ErrContext}, {1, "{+a}{y}{-}{+b}<{-}", "a", api.ErrField}, {0, "{+a}{-}{+b}<{-}", "b", api.ErrEnd},
	} {
		if got, want := renderLine(c.way, c.src, c.name, x("1")), errorLine(c.want); got != want {
			t.Errorf("P7: Render(%d, %.40q, %.40q) = %s, want %s", c.way, c.src, c.name, got, want)
		}
	}
	src := "{+a}1{-}{+b}2{-}{+cccccccc}3{-}"
	for name, want := range map[string]string{"a": `"1"`, "b": `"2"`, "cccccccc": `"3"`, "c": "error 4", "ccccccccc": "error 4"} {
		for _, way := range bothWays {
			if got := renderLine(way, src, name, rowOf()); got != want {
				t.Errorf("P7: Render(%d, %q, %s) = %s, want %s", way, src, name, got, want)
			}
		}
	}
}
