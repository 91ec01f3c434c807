package quill_test

import (
	"fmt"
	"math/rand"
	"strings"
	"testing"

	"quill/api"
	"quill/quill"
)

// model: a page as far as it is written, just as P7 and P8 tell it.
type model struct {
	trees   map[string]bodyTree
	table   *[24][256]int
	tracked bool
	page    strings.Builder
	context int
	steps   int
	escaped map[string]string // what modelEscape made already: it is slow
}

// around: a row, and the one that lies around it.
type around struct {
	row   api.Row
	outer *around
}

func (a *around) field(name string) *api.Field {
	if a == nil {
		return nil
	}
	for _, f := range a.row.Fields {
		if f.Name == name {
			return &f
		}
	}
	return a.outer.field(name)
}

// stop: an error ends the page wherever it comes.
type stop struct{ e api.Errno }

func stopIf(wrong bool, e api.Errno) {
	if wrong {
		panic(stop{e})
	}
}

func (m *model) text(s string) {
	for _, b := range []byte(s) {
		stopIf(m.page.Len() == 2000, api.ErrOut)
		m.context = m.table[m.context][b]
		stopIf(m.tracked && m.context < 0, api.ErrMarkup)
		m.page.WriteByte(b)
	}
}

func (m *model) step() {
	stopIf(m.steps == 500, api.ErrSteps)
	m.steps++
}

func (m *model) escape(s string) string {
	key := contextNames[m.context] + " " + s
	if _, known := m.escaped[key]; !known {
		m.escaped[key] = modelEscape(m.context, s)
	}
	return m.escaped[key]
}

func (m *model) body(tree bodyTree, in *around) {
	for _, p := range tree.pieces {
		if p.kind == 't' {
			m.text(p.word)
			continue
		}
		m.step()
		if p.kind == '>' {
			m.body(m.trees[p.word], in)
			continue
		}
		f := in.field(p.word)
		stopIf(f == nil, api.ErrField)
		switch p.kind {
		case 'h':
			stopIf(f.List, api.ErrKind)
			open := strings.Contains(" Text Value ValueS Link LinkS Code Quote ", " "+contextNames[m.context]+" ")
			stopIf(m.tracked && !open, api.ErrHole)
			m.page.WriteString(m.escape(f.Text))
			stopIf(m.page.Len() > 2000, api.ErrOut)
		case '?':
			if f.List && len(f.Rows) > 0 || !f.List && len(f.Text) > 0 {
				m.body(p.first, in)
			} else {
				m.body(p.second, in)
			}
		case '*':
			stopIf(!f.List, api.ErrKind)
			for _, row := range f.Rows {
				m.step()
				m.body(p.first, &around{row, in})
			}
		}
	}
}

// modelTables: what many models can share.
type modelTables struct {
	steps   *[24][256]int
	escaped map[string]string
}

func newTables() *modelTables { return &modelTables{wholeTable(), map[string]string{}} }

// modelRender: a page, or an error in renderLine's words; and in how many steps.
func modelRender(tables *modelTables, way int, src string, data api.Row) (line string, steps int) {
	if _, e := quill.Walks(src, "a"); way == api.Fixed && e != api.OK {
		return errorLine(e), 0
	}
	m := model{trees: readTrees(src), table: tables.steps, escaped: tables.escaped, tracked: way == api.Tracked}
	defer func() {
		if s, stopped := recover().(stop); stopped {
			line, steps = errorLine(s.e), m.steps
		}
	}()
	m.body(m.trees["a"], &around{row: data})
	stopIf(m.tracked && m.context != api.Text, api.ErrEnd)
	return fmt.Sprintf("%q", m.page.String()), m.steps
}

// wildRow: a row by chance, of texts x and y and lists r and q, some of them missing, twice, or of the other kind.
func wildRow(r *rand.Rand, depth int) api.Row {
	var row api.Row
	for _, name := range []string{"x", "y", "r", "q"} {
		for n := 0; n < 2; n++ {
			if chance := r.Intn(20); chance == 0 || n == 0 && (chance < 5 || depth == 2 && chance < 18) {
				list := strings.Contains("rq", name) != (r.Intn(30) == 0)
				row.Fields = append(row.Fields, wildField(r, name, list, depth))
			}
		}
	}
	r.Shuffle(len(row.Fields), func(i, j int) { row.Fields[i], row.Fields[j] = row.Fields[j], row.Fields[i] })
	return row
}

func wildField(r *rand.Rand, name string, list bool, depth int) api.Field {
	f := api.Field{Name: name, List: list}
	texts := []string{"", "", "a", "<", "'", `"&`, "</s>", "\\\n", everyByte(), strings.Repeat("z", 700), strings.Repeat("%", 150)}
	if !list || r.Intn(5) == 0 {
		f.Text = texts[min(r.Intn(len(texts)), r.Intn(40))]
	}
	if list || r.Intn(5) == 0 {
		for n := r.Intn(4); n > 0 && depth > 0; n-- {
			f.Rows = append(f.Rows, wildRow(r, depth-1))
		}
	}
	return f
}

// otherNames: a source in which some fields are asked for by other names.
func otherNames(r *rand.Rand, src string) string {
	texts, lists := []string{"x", "x", "x", "x", "x", "y", "y", "r"}, []string{"r", "r", "r", "q", "q", "q", "r", "x"}
	for at := 0; at < len(src); at++ {
		name, l := "", 0
		switch {
		case strings.HasPrefix(src[at:], "{x}"):
			name, l = "{"+texts[r.Intn(7+r.Intn(2))], 2
		case strings.HasPrefix(src[at:], "{?x}"):
			name, l = "{?"+[]string{"x", "y", "r", "q"}[r.Intn(4)], 3
		case strings.HasPrefix(src[at:], "{*r}"):
			name, l = "{*"+lists[r.Intn(7+r.Intn(2))], 3
		}
		src = src[:at] + name + src[at+l:]
	}
	return src
}

// tryModel: both ways as the model has it; where Walks finds nothing wrong, both the same.
func tryModel(t *testing.T, tables *modelTables, src string, data api.Row, seen map[string]int) {
	t.Helper()
	var lines [2]string
	for _, way := range bothWays {
		want, steps := modelRender(tables, way, src, data)
		lines[way] = renderLine(way, src, "a", data)
		if lines[way] != want {
			t.Fatalf("P7: Render(%d, %q, a, %+v) = %.300s, want %.300s", way, src, data, lines[way], want)
		}
		if strings.HasPrefix(want, "error ") {
			seen[want]++
		} else if steps > 2 {
			seen["page"]++
		}
	}
	if lines[0] != lines[1] && lines[1] != errorLine(api.ErrContext) {
		t.Fatalf("P7: Render(%q, a, %+v): Tracked %.300s, Fixed %.300s", src, data, lines[0], lines[1])
	}
}

// TestRenderOfWildSources: sources and data by chance, from a fixed seed.
func TestRenderOfWildSources(t *testing.T) {
	tables := newTables()
	r := rand.New(rand.NewSource(7))
	seen := map[string]int{}
	for n := 0; n < 10000; n++ {
		src := ""
		for _, name := range []string{"a", "b", "c", "d"} {
			src += "{+" + name + "}" + wildBody(r, 4) + "{-}"
		}
		src = otherNames(r, src)
		if e, _ := quill.Check(src); e != api.OK {
			continue
		}
		for range 3 {
			tryModel(t, tables, src, wildRow(r, 2), seen)
		}
	}
	t.Log(seen)
	for _, what := range []string{"page", "error 6", "error 7", "error 8", "error 9", "error 10", "error 11", "error 12", "error 13"} {
		if seen[what] < 20 {
			t.Errorf("%d times %s", seen[what], what)
		}
	}
}

// TestRenderOfShortSources: all sources of a few tokens, with data that lead each way.
func TestRenderOfShortSources(t *testing.T) {
	tables := newTables()
	seen := map[string]int{}
	rows := []api.Row{
		rowOf(textField("x", "<"), listField("r", x(""), rowOf())), rowOf(textField("x", ""), listField("r", x("'"))), rowOf(textField("x", "1"), listField("r")), rowOf(listField("x", rowOf()), textField("r", "")), rowOf(),
	}
	try := func(src string) {
		if e, _ := quill.Check(src); e == api.OK {
			for _, data := range rows {
				tryModel(t, tables, src, data, seen)
			}
		}
	}
	for _, a := range bodies([]string{"{x}", "{>a}", "{>b}", "<b", ">"}, 3) {
		for _, b := range bodies([]string{"{x}", "{>a}", "y"}, 2) {
			try(body(a) + "{+b}" + b + "{-}")
		}
	}
	for _, a := range bodies([]string{"{x}", "y"}, 6) {
		try(body(a))
	}
	t.Log(seen)
}
