package quill_test

import (
	"reflect"
	"strings"
	"testing"

	"quill/api"
	"quill/quill"
)

type boundCase struct {
	src   string
	data  api.Row
	bytes int // of the page; none with an error
	e     api.Errno
}

func tryBounds(t *testing.T, promise string, cases []boundCase) {
	t.Helper()
	for _, c := range cases {
		for _, way := range bothWays {
			if s, e := quill.Render(way, c.src, "a", c.data); len(s) != c.bytes || e != c.e {
				t.Errorf("%s: Render(%d, %.100q, a, %.100v): %d bytes, %d, want %d bytes, %d", promise, way, c.src, c.data, len(s), e, c.bytes, c.e)
			}
		}
	}
}

// filled: a text x of n times s.
func filled(s string, n int) api.Row { return x(strings.Repeat(s, n)) }

func TestRenderMostBytes(t *testing.T) {
	twenty := rowOf(manyRows("r", 20))
	hundred := strings.Repeat("<b>12", 20)
	fits, over := api.OK, api.ErrOut
	tryBounds(t, "P7", []boundCase{
		// By text.
		{body("{*r}" + hundred + "{/}"), twenty, 2000, fits}, {body("{*r}" + hundred + "{/}3"), twenty, 0, over}, {body("3{*r}" + hundred + "{/}"), twenty, 0, over}, {body("{*r}" + hundred[:99] + "{/}" + hundred[:20]), twenty, 2000, fits}, {body("{*r}" + hundred[:99] + "{/}" + hundred[:20] + "3"), twenty, 0, over},
		{body("{*r}12345{/}"), rowOf(manyRows("r", 400)), 2000, fits}, {body("{*r}12345{/}"), rowOf(manyRows("r", 401)), 0, over}, {"{+a}{*r}{>b}{/}{-}{+b}" + hundred + "{-}", twenty, 2000, fits}, {"{+a}{*r}{>b}{/}{>b}{-}{+b}" + hundred + "{-}", twenty, 0, over},
		// By what is filled in.
		{body("{x}"), filled("z", 2000), 2000, fits}, {body("{x}"), filled("z", 2001), 0, over}, {body("{x}"), filled("z", 2002), 0, over}, {body("{x}"), filled("<", 500), 2000, fits}, {body("{x}"), filled("<", 501), 0, over}, {body("{x}"), filled("<", 2000), 0, over}, {body("{x}{x}"), filled("z", 1000), 2000, fits}, {body("{x}{x}"), filled("z", 1001), 0, over}, {body("{x}"), x(strings.Repeat("z", 1997) + "<"), 0, over}, {body("{x}"), x(strings.Repeat("z", 1996) + "<"), 2000, fits},
		{body("{x}"), filled("<z", 5000000), 0, over}, {body("{x}{x}{x}"), filled("z", 2000), 0, over}, {body(`<p t="{x}">`), filled("z", 1992), 2000, fits}, {body(`<p t="{x}">`), filled("z", 1993), 0, over}, {body(`<p u="{x}">`), filled("%", 664), 2000, fits}, {body(`<p u="{x}">`), filled("%", 665), 0, over},
		// The quotes count too.
		{body("<s>{x}</s>"), filled("z", 1991), 2000, fits}, {body("<s>{x}</s>"), filled("z", 1992), 0, over}, {body("<s>'{x}'</s>"), filled("'", 497), 1997, fits}, {body("<s>'{x}'</s>"), filled("'", 498), 0, over},
		{body("{x}<s>{e}{z}</s>"), rowOf(textField("x", strings.Repeat("z", 1996)), textField("e", "")), 0, over}, {body("{x}<s>{e}{z}</s>"), rowOf(textField("x", strings.Repeat("z", 1995)), textField("e", "")), 0, api.ErrField}, {body("{x}<s>{e}</s>"), rowOf(textField("x", strings.Repeat("z", 1991)), textField("e", "")), 2000, fits},
		// By both, and with nothing to write where nothing more has room.
		{body("y{x}"), filled("z", 1999), 2000, fits}, {body("y{x}"), filled("z", 2000), 0, over}, {body("{x}y"), filled("z", 1999), 2000, fits}, {body("{x}y"), filled("z", 2000), 0, over}, {body("{x}{?x}{/}{e}"), rowOf(textField("x", strings.Repeat("z", 2000)), textField("e", "")), 2000, fits}, {"{+a}{x}{*r}{/}{>b}{-}{+b}{-}", rowOf(textField("x", strings.Repeat("z", 2000)), manyRows("r", 9)), 2000, fits},
		// Ahead of an error that would come behind it, and behind one that comes ahead.
		{body("{x}y{z}"), filled("z", 2000), 0, over}, {body("{x}{z}y"), filled("z", 2000), 0, api.ErrField}, {body("{z}{x}"), filled("z", 2001), 0, api.ErrField}, {body("{x}{z}"), filled("z", 2001), 0, over}, {body("{x}{>a}"), filled("z", 9), 0, over}, {body("{x}{>a}"), filled("z", 8), 0, api.ErrSteps},
	})
	for _, c := range []struct {
		src string
		n   int
		e   api.Errno
	}{
		// The byte that has no room is not looked at; the last that has is.
		{body("{x}<b =>"), 1996, api.ErrMarkup}, {body("{x}<b =>"), 1997, api.ErrOut}, {body("{x}<b =>"), 1998, api.ErrOut}, {body("{x}<b =>"), 2000, api.ErrOut}, {body("{x}<b"), 1998, api.ErrEnd}, {body("{x}<b"), 1999, api.ErrOut},
		{body("{x}<b {x}"), 1997, api.ErrHole}, {body("{x}<b {x}"), 1998, api.ErrOut}, {body("{x}<{x}"), 1999, api.ErrHole}, {body("<{x}"), 3000, api.ErrHole}, {body("<{x}"), 3000000, api.ErrHole},
	} {
		if s, e := quill.Render(api.Tracked, c.src, "a", filled("z", c.n)); s != "" || e != c.e {
			t.Errorf("P7: Render(Tracked, %q) with %d bytes: %d bytes, %d, want %d", c.src, c.n, len(s), e, c.e)
		}
	}
}

// TestRenderMostSteps: pieces of each kind as the last step that may be done, and as the first that may not.
func TestRenderMostSteps(t *testing.T) {
	data := func(rows int) api.Row {
		return rowOf(manyRows("pad", rows), textField("x", "1"), textField("e", ""), listField("r", x("2"), x("3")), listField("n"))
	}
	for _, c := range []struct {
		piece string
		steps int
	}{
		{"", 0}, {"text", 0}, {"{x}", 1}, {"{e}", 1}, {"{?x}{/}", 1}, {"{?e}{/}", 1}, {"{?n}1{:}2{/}", 1}, {"{*n}{/}", 1}, {"{*n}{x}{/}", 1}, {"{>b}", 1}, {"{*r}{/}", 3}, {"{*r}{x}{/}", 5}, {"{x}{x}{x}", 3}, {"{?x}{x}{:}{x}{x}{/}", 2}, {"{?e}{x}{:}{x}{x}{/}", 3},
		{"{>c}", 4}, {"{*r}{*r}{/}{/}", 9}, {"{*r}{>b}{/}", 5}, {"{*r}{>c}{/}", 11}, {"{?x}{?x}{?x}{/}{/}{/}", 3}, {"{*r}{?x}{x}{/}{/}", 7},
	} {
		src := "{+a}{*pad}{/}" + c.piece + "{-}{+b}{-}{+c}{x}{>b}{?e}{x}{/}{-}"
		for _, way := range bothWays {
			if _, e := quill.Render(way, src, "a", data(499-c.steps)); e != api.OK {
				t.Errorf("P8: Render(%d, %q) in 500 steps: %d", way, src, e)
			}
			for n := 500 - c.steps; n < 500; n++ {
				if s, e := quill.Render(way, src, "a", data(n)); s != "" || e != api.ErrSteps {
					t.Errorf("P8: Render(%d, %q) in %d steps: %q, %d", way, src, 1+n+c.steps, s, e)
				}
			}
			if n := stepsOf(way, body(c.piece)+"{+b}{-}{+c}{x}{>b}{?e}{x}{/}{-}", data(0)); n != c.steps {
				t.Errorf("P8: %q takes %d steps, want %d", c.piece, n, c.steps)
			}
		}
	}
	if n := stepsOf(api.Tracked, body("{z}"), x("")); n != -1 {
		t.Errorf("a page that can't be made takes %d steps", n)
	}
}

func TestRenderStepsByOneKind(t *testing.T) {
	fits, over := api.OK, api.ErrSteps
	// a calls b five times, b c, and so on; the last of n templates has the body given.
	fives := func(n int, last string) string {
		s := "{+a}"
		for i := 1; i < n; i++ {
			s += strings.Repeat("{>"+string("abcdef"[i])+"}", 5) + "{-}{+" + string("abcdef"[i]) + "}"
		}
		return s + last + "{-}"
	}
	tryBounds(t, "P8", []boundCase{
		{body("{*r}{/}"), rowOf(manyRows("r", 499)), 0, fits}, {body("{*r}{/}"), rowOf(manyRows("r", 500)), 0, over}, {body("{*r}{/}"), rowOf(manyRows("r", 100000)), 0, over}, {body("{*r}y{/}"), rowOf(manyRows("r", 499)), 499, fits}, {body("{*r}y{/}"), rowOf(manyRows("r", 500)), 0, over},
		{body("{*r}{x}{/}"), rowOf(manyRows("r", 249)), 249, fits}, {body("{*r}{x}{/}"), rowOf(manyRows("r", 250)), 0, over}, {body("{*r}{/}{*r}{?x}y{/}{/}"), rowOf(manyRows("r", 166)), 166, fits}, {body("{*r}{/}{*r}{?x}y{/}{/}"), rowOf(manyRows("r", 167)), 0, over},
		{body("{*r}{*n}{/}{/}"), rowOf(manyRows("r", 249), listField("n")), 0, fits}, {body("{*r}{*n}{/}{/}"), rowOf(manyRows("r", 250), listField("n")), 0, over}, {"{+a}{*r}{>b}{/}{-}{+b}y{-}", rowOf(manyRows("r", 249)), 249, fits}, {"{+a}{*r}{>b}{/}{-}{+b}y{-}", rowOf(manyRows("r", 250)), 0, over},
		// 155 calls, and in the last 125 of them two steps more, or three.
		{fives(4, "{x}{x}") + "{+e}{-}", x("z"), 250, fits}, {fives(4, "{?x}{/}{x}"), x("z"), 125, fits}, {fives(4, "{x}{x}{x}"), x("z"), 0, over}, {fives(5, ""), x("z"), 0, over}, {fives(4, "{>e}{?x}{/}") + "{+e}z{-}", x("z"), 125, fits}, {fives(4, "{?x}{/}{?x}{/}{?x}{/}"), x("z"), 0, over}, {fives(4, "{*n}{/}{*n}{/}"), rowOf(listField("n")), 0, fits}, {fives(4, "{*n}{/}{*n}{/}{*n}{/}"), rowOf(listField("n")), 0, over},
		// The bound comes ahead of what the piece itself would be refused for.
		{body("{*r}{/}{z}"), rowOf(manyRows("r", 499)), 0, over}, {body("{*r}{/}{z}"), rowOf(manyRows("r", 498)), 0, api.ErrField}, {body("{*r}{/}{r}"), rowOf(manyRows("r", 499)), 0, over}, {body("{*r}{/}{r}"), rowOf(manyRows("r", 498)), 0, api.ErrKind}, {body("{*r}{/}{?z}{/}"), rowOf(manyRows("r", 499)), 0, over}, {body("{*r}{/}{?z}{/}"), rowOf(manyRows("r", 498)), 0, api.ErrField}, {body("{*r}{/}{*z}{/}"), rowOf(manyRows("r", 499)), 0, over}, {body("{*r}{/}{*z}{/}"), rowOf(manyRows("r", 498)), 0, api.ErrField},
		{body("{*r}{/}{*e}{/}"), rowOf(manyRows("r", 499), textField("e", "")), 0, over}, {body("{*r}{/}{*e}{/}"), rowOf(manyRows("r", 498), textField("e", "")), 0, api.ErrKind}, {body("{*r}{/}{e}"), rowOf(manyRows("r", 499), textField("e", strings.Repeat("z", 2001))), 0, over}, {body("{*r}{/}{e}"), rowOf(manyRows("r", 498), textField("e", strings.Repeat("z", 2001))), 0, api.ErrOut}, {body("{*r}12345{/}"), rowOf(manyRows("r", 500)), 0, api.ErrOut}, {body("{*r}1234{/}12345"), rowOf(manyRows("r", 500)), 0, over},
	})
	for rows, want := range []api.Errno{api.ErrHole, api.ErrSteps} {
		if _, e := quill.Render(api.Tracked, body("<{*r}{/}{e}"), "a", rowOf(manyRows("r", 498+rows), textField("e", ""))); e != want {
			t.Errorf("P8: a hole that can't be filled behind %d steps: %d, want %d", 499+rows, e, want)
		}
		want = []api.Errno{api.ErrEnd, api.ErrSteps}[rows]
		if _, e := quill.Render(api.Tracked, body("{*r}{/}<"), "a", rowOf(manyRows("r", 499+rows))); e != want {
			t.Errorf("P8: an end that must not be behind %d steps: %d, want %d", 500+rows, e, want)
		}
	}
}

// TestRenderDeepData: rows within rows, as far as steps reach, and rows that hold themselves.
func TestRenderDeepData(t *testing.T) {
	deep := func(n int) api.Row {
		d := rowOf(textField("y", "<"), listField("r"))
		for range n {
			d = rowOf(listField("r", d))
		}
		return d
	}
	endless := make([]api.Row, 1)
	endless[0] = rowOf(textField("x", "1"), listField("r", endless...))
	tryBounds(t, "P8", []boundCase{
		// In n rows around one another: a loop, a row and a call each, and the loop over nothing.
		{body("y{*r}{>a}{/}"), deep(166), 167, api.OK}, {body("y{*r}{>a}{/}"), deep(167), 0, api.ErrSteps}, {body("y{*r}{>a}{/}"), deep(100000), 0, api.ErrSteps}, {body("{?r}{*r}{>a}{/}{:}{y}{/}"), deep(124), 4, api.OK}, {body("{?r}{*r}{>a}{/}{:}{y}{/}"), deep(125), 0, api.ErrSteps},
		{body("{*r}{*r}{*r}{x}{/}{/}{/}"), endless[0], 1, api.OK}, {body("{x}{*r}{>a}{/}"), endless[0], 0, api.ErrSteps}, {body("{?r}{x}{/}"), endless[0], 1, api.OK},
	})
}

// roomyRow: rows, fields and lists with spare room, in which something stands.
func roomyRow(depth int) (api.Row, []api.Field) {
	fields := []api.Field{textField("x", "<"), textField("y", ""), textField("x", "second"), {}, textField("spare", "spare"), listField("spare", x("spare"))}
	if depth > 0 {
		rows := make([]api.Row, 4)
		for i := range rows {
			rows[i], _ = roomyRow(depth - 1)
		}
		fields[3] = listField("r", rows[:3]...)
	}
	return api.Row{Fields: fields[:4]}, fields
}

// wholeFields, wholeRows: what stands in data, spare room too, copied.
func wholeFields(fields []api.Field) []api.Field {
	var l []api.Field
	for _, f := range fields[:cap(fields)] {
		f.Rows = wholeRows(f.Rows)
		l = append(l, f)
	}
	return l
}

func wholeRows(rows []api.Row) []api.Row {
	var l []api.Row
	for _, r := range rows[:cap(rows)] {
		l = append(l, api.Row{Fields: wholeFields(r.Fields)})
	}
	return l
}

// TestRenderLeavesData: the data are as they were, spare room too, whether there was a page or not.
func TestRenderLeavesData(t *testing.T) {
	data, fields := roomyRow(3)
	before := wholeFields(fields)
	if len(before) != 6 || len(before[3].Rows) != 4 || len(before[3].Rows[3].Fields) != 6 {
		t.Fatalf("no spare room: %v", before)
	}
	for src, want := range map[string]string{
		body("{x}{*r}{x}{*r}{x}{*r}{x}{y}{/}{/}{/}"): `"` + strings.Repeat("&lt;", 1+3+9+27) + `"`, body("{x}{?r}{*r}{x}{/}{/}"): `"&lt;&lt;&lt;&lt;"`, "{+a}{*r}{>b}{/}{-}{+b}{*r}{x}{/}{-}": `"` + strings.Repeat("&lt;", 9) + `"`,
		body("{*r}{z}{/}"): "error 7", body("{*r}{r}{/}"): "error 8", body("{*r}{*r}{>a}{/}{/}"): "error 12", body("{*r}{spare}{/}"): "error 7",
	} {
		for _, way := range bothWays {
			first := renderLine(way, src, "a", data)
			again := renderLine(way, src, "a", data)
			if first != want || again != want {
				t.Errorf("P7: Render(%d, %q) = %s, then %s, want %s", way, src, first, again, want)
			}
			if after := wholeFields(fields); !reflect.DeepEqual(after, before) {
				t.Fatalf("P2: Render(%d, %q) changed the data", way, src)
			}
		}
	}
}

// TestRenderKeepsNothing: a page stays as it was when its data are written into, and the next page is of the new data.
func TestRenderKeepsNothing(t *testing.T) {
	for _, way := range bothWays {
		data := rowOf(textField("x", "1"), listField("r", x("2"), x("3")))
		src := body("{x}{*r}{x}{/}")
		page, _ := quill.Render(way, src, "a", data)
		data.Fields[0].Text = "<"
		data.Fields[1].Rows[0] = x("8")
		data.Fields[1].Rows[1].Fields[0].Text = "9"
		if again := renderLine(way, src, "a", data); page != "123" || again != `"&lt;89"` {
			t.Errorf("P2: Render(%d): %q and then %s", way, page, again)
		}
		if other := renderLine(way, body("{*r}{x}{x}{/}"), "a", rowOf(listField("r", x("4")))); page != "123" || other != `"44"` {
			t.Errorf("P2: Render(%d): %q and then %s", way, page, other)
		}
	}
}
