package tests

import (
	"fmt"
	"strings"
	"testing"

	"loop.example/g00018/impl"
)

func TestScriptOfNoLines(t *testing.T) {
	for _, text := range []string{"", "\n", "\n\n\n", " ", "   ", " \n", "\n ", " \n  \n   ", strings.Repeat("\n", 65536), strings.Repeat(" ", 65536), strings.Repeat(" \n", 32768)} {
		wantScript(t, text, "")
		wantSameScript(t, text)
	}
}

// A last line may lack byte 10; lines without words answer nothing.
func TestScriptLastLine(t *testing.T) {
	for text, want := range map[string]string{
		"refresh": "ok 0 0\n", "refresh\n": "ok 0 0\n", "refresh\n\n": "ok 0 0\n", "\nrefresh": "ok 0 0\n", "refresh\n ": "ok 0 0\n", "\n\n \nrefresh\n  \n": "ok 0 0\n",
		"refresh\nrefresh": "ok 0 0\nok 0 0\n", "refresh\n\nrefresh\n": "ok 0 0\nok 0 0\n", "x": "bad\n", "x\n": "bad\n", "\nx\ny": "bad\nbad\n", "refresh\nx": "ok 0 0\nbad\n", "put a t 1\nrefresh\nmark a x": "ok 1\nok 1 1\n\n", "put a t 1\nrefresh\nmark a x\n": "ok 1\nok 1 1\n\n",
	} {
		wantScript(t, text, want)
		wantSameScript(t, text)
	}
}

// Blanks at both ends of a line and several between words count for nothing.
func TestScriptBlanks(t *testing.T) {
	lines := []string{"put a red 5 The running cats", "put b blue -3", "refresh", "find 9 cat dog*", "tags *", "sum tag:red", "mark a running", "hint cats", "del b", "refresh", "find 2 *", "del a", "del none", "what is this", "put a", "hint a b"}
	want := impl.RunScript(strings.Join(lines, "\n"))
	if strings.Count(want, "\n") != 20 {
		t.Errorf("%d lines", strings.Count(want, "\n"))
	}
	for _, gap := range []string{"  ", "   ", strings.Repeat(" ", 200)} {
		for _, ends := range []string{"", " ", "    "} {
			text := ""
			for _, line := range lines {
				text += ends + strings.ReplaceAll(line, " ", gap) + ends + "\n"
			}
			wantScript(t, text, want)
			wantScript(t, "\n"+strings.ReplaceAll(text, "\n", "\n   \n\n"), want)
		}
	}
}

// What stands behind the blanks of a query is the query's, to the line's end.
func TestScriptQueryToTheLinesEnd(t *testing.T) {
	wantDialog(t,
		`put a x\ 1`, "ok 1",
		`put b x\\ 2`, "ok 2",
		"refresh", "ok 2 1",
		`find 9 tag:x\\`, fmt.Sprintf("hits 1\na %d", impl.Weight(2, 1)*impl.Strength(1, 1, 2, 2)/1000),
		`find 9 tag:x\`, "error 4",
		`find 9 tag:x\ `, "hits 0",
		`find 9 "cat" `, "hits 0",
		`find 9 "cat `, "error 4",
		`find 9 * `, "hits 2\na 1024\nb 1024",
		`find 9    *   `, "hits 2\na 1024\nb 1024",
		`tags tag:x\ `, "end",
		`tags tag:x\`, "error 4",
		`sum tag:x\ `, "sum 0 0",
		`sum tag:x\`, "error 4",
		`mark a tag:x\ `, "",
		`mark a tag:x\`, "error 4",
		"find 9 "+strings.Repeat(" ", 3000)+"*", "hits 2\na 1024\nb 1024",
		"find 9 *"+strings.Repeat(" ", 1999), "hits 2\na 1024\nb 1024",
		"find 9 *"+strings.Repeat(" ", 2000), "error 2",
		"find 0 2 *", "hits 2",
		"mark a b *", "",
	)
}

// A text of MaxText bytes is read, one of a byte more is not.
func TestScriptOfLongTexts(t *testing.T) {
	for _, text := range []string{
		strings.Repeat("x\n", 32768), "refresh" + strings.Repeat(" ", 65529), strings.Repeat(" ", 65529) + "refresh", "refresh" + strings.Repeat("\n", 65529), "x" + strings.Repeat("y", 65535), "put a t 1 x\n" + strings.Repeat(" ", 65536-12-7) + "refresh", "\xff" + strings.Repeat(" \n", 32767) + "x",
	} {
		if len(text) != 65536 {
			t.Fatalf("%d bytes", len(text))
		}
		if impl.RunScript(text) == "" {
			t.Errorf("nothing is told of %s", short(text))
		}
		wantSameScript(t, text)
		for _, more := range []string{" ", "\n", "x", "\xff"} {
			wantScript(t, text+more, "")
			wantScript(t, more+text, "")
		}
		wantSameScript(t, text[1:])
		wantSameScript(t, text[:65535])
	}
	wantScript(t, strings.Repeat("x\n", 32768), strings.Repeat("bad\n", 32768))
	wantScript(t, strings.Repeat("x\n", 1<<20), "")
	wantScript(t, strings.Repeat(" ", 1<<24), "")
}

// Bodies fill a document, and all of them the text.
func TestScriptOfLongBodies(t *testing.T) {
	body := strings.Repeat("cat ", 999)
	wantDialog(t,
		"put a t 1 "+body+"x", "ok 1",
		"put b t 1 "+body+"xx", "ok 2",
		"put c t 1 "+body+"xxx", "ok 3",
		"put d t 1 "+body+"xxxx", "error 1",
		"put d tt 1 "+body+"xx", "ok 4",
		"put e tt 1 "+body+"xxx", "error 1",
		"put e t 1 "+strings.ReplaceAll(body, " ", "  ")+"xxx", "ok 5",
		"put f t 1 "+strings.Repeat("x", 3999), "ok 6",
		"put g t 1 "+strings.Repeat("x", 4000), "error 1",
		"refresh", "ok 6 1",
		"find 0 cat", "hits 5",
		"mark a cat", strings.Repeat("[cat] ", 999)+"x",
		"mark e xxx", body+"[xxx]",
		"mark f *", strings.Repeat("x", 3999),
		"hint xxy", "hint xx xxx x",
	)
}

// MaxLines lines that are operations are done, with one more nothing is; lines that
// are bad or without words do not count, wherever they stand.
func TestScriptOfManyOperations(t *testing.T) {
	for _, line := range []string{"refresh", "put a t 1", "put a t 1 words", "put \xff t 1", "put a t 999999999999999", "del a", "find 1 *", "find 1", "find -1 *", "find 1 (", "tags *", "tags", "tags (", "sum *", "sum", "sum nope:x", "mark a *", "mark a", "hint x", "hint \xff"} {
		all := strings.Repeat(line+"\n", 200)
		if told := impl.RunScript(all); strings.Count(told, "\n") < 200 {
			t.Errorf("200 times %q: %s", line, short(told))
		}
		wantSameScript(t, all)
		for _, more := range []string{"refresh", "find 1", "tags", "sum", "mark a", "hint \xff", "del none", "put \xff \xff 1"} {
			wantScript(t, all+more, "")
			wantScript(t, all+"  "+more+"  \n", "")
			wantScript(t, more+"\n"+all, "")
			wantScript(t, all[:100*len(line)+100]+more+"\n"+all[100*len(line)+100:], "")
		}
	}
	for _, line := range []string{"bad", "put", "put a", "put a t", "put a t x", "put a t 1234567890123456", "del", "del a b", "refresh x", "find", "find x", "find x *", "mark", "hint", "hint a b", "\t", "\r", "refresh\r", "\xff"} {
		wantScript(t, strings.Repeat(line+"\n", 1000), strings.Repeat("bad\n", 1000))
		wantScript(t, strings.Repeat("refresh\n"+line+"\n\n  \n", 200), strings.Repeat("ok 0 0\nbad\n", 200))
		wantScript(t, strings.Repeat(line+"\n", 300)+strings.Repeat("refresh\n", 200)+strings.Repeat(line+"\n", 300), strings.Repeat("bad\n", 300)+strings.Repeat("ok 0 0\n", 200)+strings.Repeat("bad\n", 300))
		wantScript(t, strings.Repeat("refresh\n"+line+"\n", 201), "")
		wantScript(t, strings.Repeat("refresh\n", 201)+strings.Repeat(line+"\n", 300), "")
	}
	wantScript(t, strings.Repeat("\n \nrefresh\n", 200), strings.Repeat("ok 0 0\n", 200))
	wantScript(t, strings.Repeat("\n \nrefresh\n", 201), "")
	wantScript(t, strings.Repeat("refresh\n", 5000), "")
}

// A hundred and more documents, put, found and deleted.
func TestScriptOfManyDocs(t *testing.T) {
	text, want, hits := "", "", ""
	for i := range 150 {
		text += fmt.Sprintf("put d%03d t%d %d w%d\n", i, i%3, i, i)
		want += fmt.Sprintf("ok %d\n", i+1)
		hits += fmt.Sprintf("d%03d 1024\n", i)
	}
	text += "refresh\nfind 1000 *\ntags *\nsum *\nhint w77\nfind 0 w*\n"
	want += "ok 150 1\nhits 150\n" + hits + "50 t0\n50 t1\n50 t2\nend\nsum 150 11175\nhint w77 w17 w27 w37 w47\nhits 150\n"
	wantScript(t, text, want)
	for i := range 44 {
		text += fmt.Sprintf("del d%03d\n", 3*i)
	}
	wantSameScript(t, text)
	wantSameScript(t, text+"refresh")
	wantSameScript(t, text+"refresh\ntags *")
	wantSameScript(t, text+"x")
}

// Of more terms than a list may have no hint is told, however near one is; what
// comes over and over counts once.
func TestScriptOfManyTerms(t *testing.T) {
	script := func(terms int) string {
		text, line := "", 0
		for at := 0; at < terms; at += 1000 {
			line++
			text += fmt.Sprintf("put d%d t 1", line)
			for n := at; n < min(at+1000, terms); n++ {
				text += fmt.Sprintf(" %03x", n)
			}
			text += "\n"
		}
		return text
	}
	answers := func(text string) []string { return strings.Split(impl.RunScript(text), "\n") }
	many := script(0xfff + 1)
	for text, want := range map[string]string{
		many + "refresh\nhint 7a9": "hint 7a9 0a9 1a9 2a9 3a9", many + many + "refresh\nhint 7a9": "hint 7a9 0a9 1a9 2a9 3a9", many + strings.ReplaceAll(many, "put d", "put e") + "refresh\nhint 7a9": "hint 7a9 0a9 1a9 2a9 3a9", many + "put x t 1 0ff\nrefresh\nhint 0ff": "hint 0ff 00f 01f 02f 03f", many + "put x 0fffg 1\nrefresh\nhint 0ff": "hint 0ff 00f 01f 02f 03f",
		many + "put x t 1 0fffg\nrefresh\nhint 7a9": "error 2", many + "put x t 1 0fffg\nrefresh\nhint \xff": "error 2", many + "put x t 1 0fffg\nrefresh\nhint " + strings.Repeat("x", 201): "error 2", many + "put x t 1 0fffg\nrefresh\ndel x\nhint 7a9": "error 2", many + "put x t 1 0fffg\nrefresh\ndel x\nrefresh\nhint 7a9": "hint 7a9 0a9 1a9 2a9 3a9", many + "put x t 1 0fffg\nhint 7a9": "hint",
	} {
		lines := answers(text)
		if told := lines[len(lines)-2]; told != want {
			t.Errorf("%s: %s, want %s", short(text[len(text)-40:]), short(told), short(want))
		}
		wantSameScript(t, text)
	}
	wantSameScript(t, many+"put x t 1 0fffg\nrefresh\nfind 9 ~\"*7*\"\nfind 9 0fffg\ntags 7a*\nsum 7a9~\nmark x 0ff~2\nmark d1 7a*")
}
