package quill_test

import (
	"math/rand"
	"sort"
	"strings"
	"testing"

	"quill/api"
	"quill/quill"
)

// piece: a part of a body, as the document has them. Of a text, word is the text; else the name.
type piece struct {
	kind          byte // 't' text, 'h' hole, '?', '*', '>'
	word          string
	at            int
	first, second bodyTree
}

// bodyTree: pieces, and the place at which the body ends.
type bodyTree struct {
	pieces []piece
	end    int
}

func readTree(src string, at int) bodyTree {
	var tree bodyTree
	for {
		rest := src[at:]
		p := piece{at: at}
		if rest[0] != '{' {
			p.kind, p.word = 't', rest[:strings.IndexByte(rest, '{')]
			at += len(p.word)
		} else if strings.HasPrefix(rest, "{:}") || strings.HasPrefix(rest, "{/}") || strings.HasPrefix(rest, "{-}") {
			tree.end = at
			return tree
		} else {
			p.kind, p.word = rest[1], rest[2:strings.IndexByte(rest, '}')]
			at += len(p.word) + 3
			if p.kind >= 'a' && p.kind <= 'z' {
				p.kind, p.word = 'h', string(p.kind)+p.word
			}
			if p.kind == '?' || p.kind == '*' {
				p.first = readTree(src, at)
				at = p.first.end + 3
				// A second way that is not written ends at a place of its own, none of the first way's.
				p.second.end = -1 - p.at
				if src[p.first.end+1] == ':' {
					p.second = readTree(src, at)
					at = p.second.end + 3
				}
			}
		}
		tree.pieces = append(tree.pieces, p)
	}
}

// walkKey: a place of a template, for the walks through it that begin in a context.
type walkKey struct {
	name         string
	begun, place int
}

// walker goes all walks of no more than some number of turnings, one by one, just as P6 tells them.
type walker struct {
	trees map[string]bodyTree
	table *[24][256]int
	seen  map[walkKey]int
	uses  map[api.Use]bool
	wrong bool
	cut   bool // whether a walk had more turnings
	left  int  // how many steps may be taken in all
}

// come notes that the walk w comes to a place; false, if it need not go on.
func (m *walker) come(w walkKey, place, context, turns int) bool {
	w.place = place
	was, known := m.seen[w]
	if known && was != context {
		m.wrong = true
	}
	m.seen[w] = context
	m.left--
	if turns < 0 || m.left < 0 {
		m.cut = true
		return false
	}
	return !m.wrong
}

// pieces goes through pieces and then to the body's end, in all ways, and goes on with next behind each.
func (m *walker) pieces(w walkKey, tree bodyTree, i, context, turns int, next func(context, turns int)) {
	if i == len(tree.pieces) {
		if m.come(w, tree.end, context, turns) {
			next(context, turns)
		}
		return
	}
	p := tree.pieces[i]
	if !m.come(w, p.at, context, turns) {
		return
	}
	on := func(context, turns int) { m.pieces(w, tree, i+1, context, turns, next) }
	switch p.kind {
	case 't':
		for j := 0; j < len(p.word); j++ {
			context = m.table[context][p.word[j]]
			if context < 0 {
				m.wrong = true
				return
			}
		}
		on(context, turns)
	case 'h':
		open := false
		for _, o := range openContexts {
			open = open || o == context
		}
		m.wrong = m.wrong || !open
		m.uses[api.Use{At: p.at, Context: context}] = true
		on(context, turns)
	case '?':
		m.pieces(w, p.first, 0, context, turns-1, on)
		m.pieces(w, p.second, 0, context, turns-1, on)
	case '*':
		var again func(context, turns int)
		again = func(context, turns int) {
			on(context, turns)
			m.pieces(w, p.first, 0, context, turns-1, again)
		}
		again(context, turns)
	case '>':
		m.pieces(walkKey{name: p.word, begun: context}, m.trees[p.word], 0, context, turns-1, on)
	}
}

func readTrees(src string) map[string]bodyTree {
	trees := map[string]bodyTree{}
	for at := 0; at < len(src); {
		name := src[at+2 : at+strings.IndexByte(src[at:], '}')]
		tree := readTree(src, at+3+len(name))
		trees[name] = tree
		at = tree.end + 3
	}
	return trees
}

// modelWalks: P6 in another way, at walks of a few turnings; and whether there were longer ones.
func modelWalks(table *[24][256]int, src string, turns, steps int) ([]api.Use, api.Errno, bool) {
	m := walker{trees: readTrees(src), table: table, seen: map[walkKey]int{}, uses: map[api.Use]bool{}, left: steps}
	m.pieces(walkKey{name: "a", begun: api.Text}, m.trees["a"], 0, api.Text, turns, func(context, turns int) {
		m.wrong = m.wrong || context != api.Text
	})
	if m.wrong {
		return nil, api.ErrContext, m.cut
	}
	var l []api.Use
	for u := range m.uses {
		l = append(l, u)
	}
	sort.Slice(l, func(i, j int) bool {
		return l[i].At < l[j].At || l[i].At == l[j].At && l[i].Context < l[j].Context
	})
	return l, api.OK, m.cut
}

func wholeTable() *[24][256]int {
	var table [24][256]int
	for context := range table {
		for b := range table[context] {
			table[context][b] = tableStep(context, byte(b))
		}
	}
	return &table
}

// bodies: all bodies of up to n tokens in which what is open ends.
func bodies(tokens []string, n int) []string {
	var all []string
	var grow func(s string, open, n int)
	grow = func(s string, open, n int) {
		if open == 0 {
			all = append(all, s)
		}
		if n == 0 {
			return
		}
		for _, token := range tokens {
			grow(s+token, open, n-1)
		}
		if open < n {
			grow(s+"{?x}", open+1, n-1)
			grow(s+"{*r}", open+1, n-1)
		}
		if open > 0 {
			grow(s+"{:}", open, n-1)
			grow(s+"{/}", open-1, n-1)
		}
	}
	grow("", 0, n)
	return all
}

// TestWalksAgainstModel: all short templates, with all shorter ones that they can call.
func TestWalksAgainstModel(t *testing.T) {
	table := wholeTable()
	fine, refused := 0, 0
	try := func(src string) {
		if e, _ := quill.Check(src); e != api.OK {
			return
		}
		l, e := quill.Walks(src, "a")
		wl, we, _ := modelWalks(table, src, 9, 3000)
		if got, want := usesLine(l, e), usesLine(wl, we); got != want {
			t.Fatalf("P6: Walks(%q, a): %s, want %s", src, got, want)
		}
		if e == api.OK {
			fine++
		} else {
			refused++
		}
	}
	inner := bodies([]string{"{x}", "{>a}", "{>b}", "<b", ">"}, 3)
	for _, a := range bodies([]string{"{x}", "{>a}", "{>b}", "<", "b>"}, 3) {
		for _, b := range inner {
			try(body(a) + "{+b}" + b + "{-}")
		}
	}
	for _, a := range bodies([]string{"{x}", "{>a}", `<p t="`, `">`}, 5) {
		try(body(a))
	}
	for _, a := range bodies([]string{"{x}", "'", `\`}, 5) {
		try(body("<s>" + a + "</s>"))
	}
	if fine < 1000 || refused < 1000 {
		t.Errorf("%d sources were fine and %d refused", fine, refused)
	}
}

// wildBody: a body by chance. What it begins it mostly ends, so that not all are refused.
func wildBody(r *rand.Rand, size int) string {
	s := ""
	for n := r.Intn(size + 1); n > 0; n-- {
		in := func() string { return wildBody(r, size-1) }
		switch r.Intn(16) {
		case 0, 1, 2:
			s += "{x}"
		case 3:
			s += "{?x}" + in() + "{/}"
		case 4:
			s += "{?x}" + in() + "{:}" + in() + "{/}"
		case 5:
			s += "{*r}" + in() + "{/}"
		case 6, 7:
			s += "{>" + string("abcd"[r.Intn(4)]) + "}"
		case 8:
			s += "x"
		case 9:
			s += "<p t=\"" + in() + "\">"
		case 10:
			s += "<p u=\"" + in() + "\">"
		case 11:
			s += "<s>" + in() + "</s>"
		case 12:
			s += "'" + in() + "'"
		case 13:
			s += "</" + in() + ">"
		case 14:
			s += "<p" + in() + ">"
		case 15:
			if r.Intn(4) == 0 {
				s += []string{"<", ">", "\"", "'", " ", "\\", "\n", "/", "="}[r.Intn(9)]
			}
		}
	}
	return s
}

func hasUses(l, some []api.Use) bool {
	all := map[api.Use]bool{}
	for _, u := range l {
		all[u] = true
	}
	for _, u := range some {
		if !all[u] {
			return false
		}
	}
	return true
}

// TestWalksOfWildSources: where the model went all walks, Walks answers as it does; else it must not know of less.
func TestWalksOfWildSources(t *testing.T) {
	table := wholeTable()
	r := rand.New(rand.NewSource(6))
	fine, whole := 0, 0
	for n := 0; n < 20000; n++ {
		src := ""
		for _, name := range []string{"a", "b", "c", "d"} {
			src += "{+" + name + "}" + wildBody(r, 4) + "{-}"
		}
		if e, _ := quill.Check(src); e != api.OK {
			continue
		}
		l, e := quill.Walks(src, "a")
		wl, we, cut := modelWalks(table, src, 20, 2000)
		got, want := usesLine(l, e), usesLine(wl, we)
		short := cut && we == api.OK && (e == api.ErrContext || e == api.OK && hasUses(l, wl))
		if got != want && !short {
			t.Fatalf("P6: Walks(%q, a): %s, want %s", src, got, want)
		}
		if e == api.OK {
			fine++
		}
		if !cut {
			whole++
		}
	}
	t.Logf("%d were fine, of %d all walks were gone", fine, whole)
	if fine < 1000 || whole < 1000 {
		t.Errorf("%d were fine, of %d all walks were gone", fine, whole)
	}
}
