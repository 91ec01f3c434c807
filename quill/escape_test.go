package quill_test

import (
	"fmt"
	"strings"
	"testing"

	"quill/api"
	"quill/quill"
)

var openContexts = []int{api.Text, api.Value, api.ValueS, api.Link, api.LinkS, api.Code, api.Quote}

// modelByte: how a byte is written in an open context, less the quotes around the whole in Code.
func modelByte(context int, b byte) string {
	plain := strings.IndexByte(allLetters+allDigits, b) >= 0
	switch context {
	case api.Text:
		return strings.NewReplacer("<", "&lt;", ">", "&gt;", "&", "&amp;").Replace(string([]byte{b}))
	case api.Value, api.ValueS:
		return strings.NewReplacer("<", "&lt;", ">", "&gt;", "&", "&amp;", `"`, "&quot;").Replace(string([]byte{b}))
	case api.Link, api.LinkS:
		if plain || strings.IndexByte("-_.~/", b) >= 0 {
			return string([]byte{b})
		}
		return fmt.Sprintf("%%%02X", b)
	}
	if plain || strings.IndexByte(" -_.,:/", b) >= 0 {
		return string([]byte{b})
	}
	return fmt.Sprintf(`\x%02x`, b)
}

func modelEscape(context int, s string) string {
	var out strings.Builder
	for i := 0; i < len(s); i++ {
		out.WriteString(modelByte(context, s[i]))
	}
	if context == api.Code {
		return "'" + out.String() + "'"
	}
	return out.String()
}

func tryEscape(t *testing.T, context int, s string) {
	t.Helper()
	got, e := quill.Escape(context, s)
	if want := modelEscape(context, s); got != want || e != api.OK {
		t.Errorf("P5: Escape(%d, %.60q) = %.60q, %d, want %.60q", context, s, got, e, want)
	}
}

// everyByte: all bytes, by rising numbers.
func everyByte() string {
	var all []byte
	for b := 0; b < 256; b++ {
		all = append(all, byte(b))
	}
	return string(all)
}

func TestEscapeEveryByte(t *testing.T) {
	for _, context := range openContexts {
		for b := 0; b < 256; b++ {
			tryEscape(t, context, string([]byte{byte(b)}))
		}
		tryEscape(t, context, "")
		tryEscape(t, context, everyByte())
		tryEscape(t, context, strings.Repeat(everyByte(), 8))
	}
}

func TestEscapeLongText(t *testing.T) {
	want := strings.Repeat("&lt;x", 1000000)
	if got, e := quill.Escape(api.Text, strings.Repeat("<x", 1000000)); got != want || e != api.OK {
		t.Errorf("P5: of a long text Escape made %d bytes, %d, want %d", len(got), e, len(want))
	}
}

func TestEscapeByHand(t *testing.T) {
	for _, c := range []struct {
		context int
		s, want string
	}{
		{api.Text, `<b> & "c"`, `&lt;b&gt; &amp; "c"`}, {api.Text, "&amp;", "&amp;amp;"}, {api.Text, "", ""}, {api.Text, "\u00e9\n\x00", "\u00e9\n\x00"},
		{api.Value, `a b"/`, `a b&quot;/`}, {api.ValueS, `'<">&`, `'&lt;&quot;&gt;&amp;`},
		{api.Link, `a b"/`, `a%20b%22/`}, {api.LinkS, "-_.~/?#%\n\xff", "-_.~/%3F%23%25%0A%FF"},
		{api.Quote, `it's </s>`, `it\x27s \x3c/s\x3e`}, {api.Quote, "-_.,:/~\n\xff", `-_.,:/\x7e\x0a\xff`}, {api.Quote, "", ""},
		{api.Code, `it's </s>`, `'it\x27s \x3c/s\x3e'`}, {api.Code, "", "''"}, {api.Code, `\`, `'\x5c'`},
	} {
		if got, e := quill.Escape(c.context, c.s); got != c.want || e != api.OK {
			t.Errorf("P5: Escape(%d, %q) = %q, %d, want %q", c.context, c.s, got, e, c.want)
		}
	}
}

func TestEscapeWhereNotOpen(t *testing.T) {
	closed := []int{-1 << 63, -2, -1, 24, 25, 256, 1 << 32, 1<<63 - 1}
	for context := 0; context < 24; context++ {
		open := false
		for _, o := range openContexts {
			open = open || o == context
		}
		if !open {
			closed = append(closed, context)
		}
	}
	for _, context := range closed {
		for _, s := range []string{"", "x", "<"} {
			if got, e := quill.Escape(context, s); got != "" || e != api.ErrHole {
				t.Errorf("P5: Escape(%d, %q) = %q, %d, want ErrHole", context, s, got, e)
			}
		}
	}
}

// TestEscapeStays: what is filled in leads out of no context.
func TestEscapeStays(t *testing.T) {
	for _, context := range openContexts {
		for _, s := range []string{"", everyByte(), "</s>", "'", `"`, `\`, "\n", "<", "'</", `" u="`} {
			out, _ := quill.Escape(context, s)
			if got := quill.Scan(context, out); got != context {
				t.Errorf("P5: behind Escape(%d, %.40q) one is in %d", context, s, got)
			}
		}
	}
}
