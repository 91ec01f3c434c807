package quill_test

import (
	"fmt"
	"strings"
	"testing"

	"quill/api"
	"quill/quill"
)

// wildTexts: texts of all sorts, among them many that are nearly sources.
func wildTexts() []string {
	texts := []string{"", "\x00", "\xff\xfe", everyByte(), strings.Repeat("{", 400), strings.Repeat("{+a}{-}", 57), strings.Repeat("{", 1000000)}
	whole := "{+a}<s u=\"{x}\">'{?x}\\{:}<{/}'{*r}{>b}{/}</s>{-}{+b}{yy}{-}"
	for i := 0; i <= len(whole); i++ {
		texts = append(texts, whole[:i], whole[i:])
		for _, b := range []string{"{", "}", "\x00", "a", "<", "\n"} {
			texts = append(texts, whole[:i]+b+whole[i:])
		}
	}
	return texts
}

var wildNumbers = []int{-1 << 63, -1 << 31, -2, -1, 0, 1, 4, 15, 18, 19, 20, 21, 22, 23, 24, 25, 255, 1 << 31, 1<<63 - 1}

var wildNames = []string{"", "a", "b", "A", "{+a}", "aaaaaaaaa", "\x00\xff"}

// wildData: data of all sorts, some of them with what no source can ask for.
var wildData = []api.Row{
	{}, {Fields: []api.Field{{}, {}}}, {Fields: []api.Field{{Name: "x"}, {Name: "r", List: true}, {Name: "yy", List: true, Text: "1"}}},
	{Fields: []api.Field{{Name: "x", Text: `</s>'\`}, {Name: "yy", Text: "'"}, {Name: "r", List: true, Rows: []api.Row{{}, {Fields: []api.Field{{Name: "yy", Text: "<"}}}}}}},
	{Fields: []api.Field{{Name: "x", Text: strings.Repeat("\xff", 5000)}, {Name: "yy", List: true, Rows: make([]api.Row, 5)}, {Name: "r", List: true, Rows: make([]api.Row, 1000)}}},
	{Fields: []api.Field{{Name: "x", Text: "1", Rows: make([]api.Row, 5)}, {Name: "yy", Text: "2"}, {Name: "r", List: true, Rows: make([]api.Row, 300)}}},
}

// answers: what the calls answer at one text, in one line.
func answers(text string) string {
	e, at := quill.Check(text)
	line := fmt.Sprint(e, at)
	for _, name := range wildNames {
		line += " " + walksLine(text, name)
		for _, data := range wildData {
			for way := -1; way < 3; way++ {
				line += " " + renderLine(way, text, name, data)
			}
		}
	}
	for _, n := range wildNumbers {
		s, e := quill.Escape(n, text)
		line += fmt.Sprintf(" %d %q %d", quill.Scan(n, text), s, e)
	}
	return line
}

// tryRenderStandsAlone: with an error there is no page, and those named first come first.
func tryRenderStandsAlone(t *testing.T, text, name string, data api.Row) {
	t.Helper()
	e, _ := quill.Check(text)
	_, we := quill.Walks(text, name)
	for _, way := range wildNumbers {
		s, re := quill.Render(way, text, name, data)
		want := e
		if want == api.OK && way != 0 && way != 1 {
			want = api.ErrArg
		}
		if want == api.OK && (we == api.ErrName || way == api.Fixed) {
			want = we
		}
		if re != api.OK && s != "" || len(s) > 2000 || want != api.OK && re != want {
			t.Errorf("P1: Render(%d, %.60q, %q) = %.60q, %d, want %d", way, text, name, s, re, want)
		}
	}
}

func TestErrorsStandAlone(t *testing.T) {
	for _, text := range wildTexts() {
		e, at := quill.Check(text)
		if at < 0 || at > len(text) || (e == api.OK || e == api.ErrLong) && at != 0 {
			t.Errorf("P1: Check(%.60q) = %d, %d", text, e, at)
		}
		for _, name := range wildNames {
			l, we := quill.Walks(text, name)
			if we != api.OK && len(l) != 0 || e != api.OK && we != e {
				t.Errorf("P1: Walks(%.60q, %q) = %v, %d; Check has %d", text, name, l, we, e)
			}
			for _, data := range wildData {
				tryRenderStandsAlone(t, text, name, data)
			}
		}
		for _, n := range wildNumbers {
			if s, e := quill.Escape(n, text); e != api.OK && s != "" {
				t.Errorf("P1: Escape(%d, %.60q) has error %d and a text", n, text, e)
			}
			if x := quill.Scan(n, text); x < api.Lost || x >= api.Contexts {
				t.Errorf("P1: Scan(%d, %.60q) = %d", n, text, x)
			}
		}
	}
}

// TestAnswersDependOnArguments: the same calls, once more in the other order, answer the same.
func TestAnswersDependOnArguments(t *testing.T) {
	var texts, first []string
	for _, text := range wildTexts() {
		if len(text) <= 1000 {
			texts = append(texts, text)
			first = append(first, answers(text))
		}
	}
	for i := len(texts) - 1; i >= 0; i-- {
		if again := answers(texts[i]); again != first[i] {
			t.Errorf("P2: at %.60q: first %.200s, then %.200s", texts[i], first[i], again)
		}
	}
}

// TestNothingIsKept: an answer stays as it was when later calls have other arguments.
func TestNothingIsKept(t *testing.T) {
	for _, context := range openContexts {
		s, _ := quill.Escape(context, "a<b>'c")
		want := strings.Clone(s)
		for _, text := range []string{"zzzzzz", everyByte(), ""} {
			for _, other := range openContexts {
				quill.Escape(other, text)
			}
		}
		if s != want {
			t.Errorf("P2: Escape's answer in %d became %q, was %q", context, s, want)
		}
	}
}
