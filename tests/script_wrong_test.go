package tests

import (
	"strings"
	"testing"

	"loop.example/g00018/impl"
)

// Lines that are none, alone and behind others. They change nothing.
func TestScriptOfBadLines(t *testing.T) {
	for _, line := range []string{
		"bad", "x", "puts a t 1", "pu a t 1", "Put a t 1", "PUT a t 1", "delete a", "Del a", "refreshes", "refres", "Refresh", "REFRESH", "finds 1 *", "Find 1 *", "fin 1 *", "tag *", "Tags *", "sums *", "Sum *", "su *", "marks a x", "Mark a x", "hints x", "Hint x", "hin x", "ok", "error 4", "end", "a", "7", "-", "+", "*", "put:", "put,a t 1",
		"put", "put a", "put a t", "put a t x", "put a t x 5", "put a 5", "put a t 5x", "put a t 1234567890123456 words", "put a t - words", "put 1", "put 5 5", "put a t \"5\"",
		"del", "del a b", "del a a", "del b a", "del a -", "refresh x", "refresh refresh", "refresh 1", "find", "find *", "find cat", "find x *", "find * 1", "find 1* *", "find 1.5 *", "find 1234567890123456 *", "find 1234567890123456", "find - *", "find --1 *", "find +1 *", "find 1- *",
		"mark", "hint", "hint a b", "hint cat cat", "hint cat *",
		"\x00", "\xff", "\xff\xfe", "refresh\x00", "\x00refresh", "\u00e9", "refr\u00e9sh", "\u00a0refresh", "refresh\u00a0", "\u3000", "\xef\xbb\xbfrefresh", "tags\xff *", "\tput a t 1", "put\ta t 1", "put a\tt 1", "put a t\t1", "put a t 1\tx", "refresh\t", "\trefresh", "\t", "\r", "refresh\r", "\rrefresh", "find\t1 *", "find 1\t*", "tags\t*", "sum\t*", "mark\ta x", "hint\tx", "del\ta", "del\r", "tags\r", "sum\r", "mark\r", "\v", "\f", "refresh\v", "\x1f",
	} {
		wantDialog(t, line, "bad")
		wantDialog(t, line, "bad", "put a red 5 cat", "ok 1", line, "bad", "refresh", "ok 1 1", line, "bad", "find 9 *", "hits 1\na 1024", " "+line+"  ", "bad", "del a", "ok 2", "refresh", "ok 0 0")
	}
}

// Words of which an operation takes as many as there are, and a query of none.
func TestScriptOfFewWords(t *testing.T) {
	for _, line := range []string{"find 1", "find 1 ", "find 1     ", "find -1", "find 9999", "find 999999999999999", "tags", "tags ", "tags    ", "sum", "sum   ", "mark a", "mark a ", "mark a    "} {
		wantBehind(t, line, "error 4")
	}
	for _, line := range []string{"find 1", "find 0 ", "tags", "tags ", "sum", "sum  "} {
		wantDialog(t, line, "error 4")
	}
	for _, line := range []string{"mark a", "mark a ", "mark f", "mark mark"} {
		wantDialog(t, line, "error 8")
	}
	wantBehind(t, "mark f", "error 8")
	wantBehind(t, "mark *", "error 8")
}

// Documents that may not be: nothing is put, no version is taken.
func TestScriptOfWrongDocs(t *testing.T) {
	long := strings.Repeat("i", 31)
	for _, line := range []string{
		"put " + long + " t 1", "put a\x7f t 1", "put \x7f t 1", "put \x1f t 1", "put a\t t 1", "put \t t 1", "put \x00 t 1", "put \u00e9 t 1", "put a\u00a0b t 1", "put \xff t 1", "put a\r t 1", "put " + strings.Repeat("i", 1000) + " t 1 words",
		"put a " + strings.Repeat("t", 65) + " 1", "put a " + strings.Repeat("t", 65) + " 1 words", "put a \xff 1", "put a t\xc3 1", "put a \xed\xa0\x80 1", "put a \xc0\x80 1 x", "put a " + strings.Repeat("\u00e9", 33) + " 1",
		"put a t 1 \xff", "put a t 1 x\xc3", "put a t 1 x \xe4\xb8 y", "put a t 1 \xed\xa0\x80", "put a t 1 \xf4\x90\x80\x80", "put a t 1 \xc0\x80", "put a t 1 \xc3 \xa9", "put a t 1 " + strings.Repeat("x", 4000), "put a t 1" + strings.Repeat(" x", 2001), "put a t 1 " + strings.Repeat("\u4e2d", 1334),
		"put a t 1000000000001", "put a t -1000000000001 x", "put \xff \xff 999999999999999 \xff", "put " + long + " \xff 1", "put a \xff 999999999999999",
	} {
		wantDialog(t, line, "error 1")
		wantDialog(t, "put a red 5 cat", "ok 1", line, "error 1", "refresh", "ok 1 1", line, "error 1", "find 9 *", "hits 1\na 1024", "mark a cat", "[cat]", "put a blue 6 dog", "ok 2", line, "error 1", "refresh", "ok 1 1", "mark a dog", "[dog]")
	}
	for _, line := range []string{
		"put " + long[1:] + " t 1", "put ! t 1", "put ~ t 1", "put put t 1", "put \" t 1", "put a " + strings.Repeat("t", 64) + " 1", "put a \t 1", "put a \x00 1", "put a \u00e9 1", "put a " + strings.Repeat("\u00e9", 32) + " 1", "put a 1 1", "put a -1 -1", "put a t 1 1", "put a t 1 \x00", "put a t 1 \t", "put a t 1 \r", "put a t 1 \u00e9 \U0010ffff", "put a t 1 " + strings.Repeat("x", 3999), "put a t 1 " + strings.Repeat("\u4e2d", 1333),
	} {
		wantDialog(t, line, "ok 1", "refresh", "ok 1 1", line, "ok 2", "find 0 *", "hits 1", "refresh", "ok 1 1", "find 0 *", "hits 1")
	}
}

// An Id that no document may have is one of which there is none.
func TestScriptOfWrongIds(t *testing.T) {
	for _, id := range []string{strings.Repeat("i", 31), "\x7f", "\t", "\x00", "\xff", "\u00e9", "a\r", strings.Repeat("i", 5000)} {
		wantDialog(t, "del "+id, "error 8", "mark "+id+" *", "error 8", "mark "+id, "error 8", "mark "+id+" (", "error 8", "put a t 1 x", "ok 1", "refresh", "ok 1 1", "del "+id, "error 8", "mark "+id+" *", "error 8", "del a", "ok 2")
	}
}

// The codes of a query, of some documents and of none.
func TestScriptOfWrongQueries(t *testing.T) {
	for query, want := range map[string]string{
		"(": "error 4", ")": "error 4", "cat)": "error 4", "()": "error 4", `"cat`: "error 4", "cat^": "error 4", "cat^0": "error 4", "cat^100": "error 4", "cat~3": "error 4", "n:[2 1]": "error 4", "[1 2]": "error 4", "+": "error 4", "n:": "error 4", ":x": "error 4", "Nope:x": "error 4", "~x": "error 4", `~""`: "error 4", "\\": "error 4",
		"nope:x": "error 5", "cat nope:x": "error 5", "-nope:*x": "error 4", "body:cat (cat (nope:[1 2]))": "error 5", "bod:x": "error 5", "tags:x": "error 5", "tag2:x": "error 5",
		"\xff": "error 3", "cat \xc3": "error 3", "(\xff": "error 3", "nope:\xff": "error 3", "\xed\xa0\x80": "error 3",
		strings.Repeat("x", 2001): "error 2", "(" + strings.Repeat("x", 2000): "error 2", "\xff" + strings.Repeat("x", 2000): "error 2", "nope:" + strings.Repeat("x ", 999): "error 2", strings.Repeat("x", 65): "error 4", "nope:" + strings.Repeat("x", 65): "error 4",
		strings.Repeat("(", 8) + "x" + strings.Repeat(")", 8): "error 10", strings.Repeat("(", 8) + "nope:x" + strings.Repeat(")", 8): "error 10", strings.Repeat("(", 8) + "x": "error 4", strings.Repeat("x ", 64): "error 11", strings.Repeat("x ", 64) + "(": "error 4", strings.Repeat("nope:x ", 64): "error 11", strings.Repeat("(", 8) + "x" + strings.Repeat(")", 8) + strings.Repeat(" x", 64): "error 10",
	} {
		for _, head := range []string{"find 0 ", "find 9 ", "find -1 ", "find 1001 ", "find 999999999999999 ", "tags ", "sum "} {
			wantBehind(t, head+query, want)
			wantDialog(t, head+query, want)
		}
		wantBehind(t, "mark a "+query, want)
		wantBehind(t, "mark c "+query, want)
		// That the document is not there counts ahead of the query.
		wantBehind(t, "mark f "+query, "error 8")
		wantDialog(t, "mark a "+query, "error 8")
		wantDialog(t, "put a t 1 x", "ok 1", "mark a "+query, "error 8", "refresh", "ok 1 1", "del a", "ok 2", "mark a "+query, want, "refresh", "ok 0 0", "mark a "+query, "error 8")
	}
}

// N counts last.
func TestScriptOfWrongSizes(t *testing.T) {
	for _, n := range []string{"-1", "-5", "1001", "1002", "9999", "65537", "4294967296", "999999999999999", "-999999999999999", "-000000000000001", "000000000001001"} {
		wantBehind(t, "find "+n+" *", "error 12")
		wantBehind(t, "find "+n+" zzz", "error 12")
		wantBehind(t, "find "+n, "error 4")
		wantBehind(t, "find "+n+" nope:x", "error 5")
		wantDialog(t, "find "+n+" *", "error 12", "find "+n+" (", "error 4")
	}
	for _, n := range []string{"0", "-0", "00", "-000000000000000", "1", "1000", "000000000001000"} {
		wantDialog(t, "find "+n+" *", "hits 0")
	}
}

func TestScriptOfWrongHints(t *testing.T) {
	for word, want := range map[string]string{
		"\xff": "error 3", "cat\xc3": "error 3", "\xc3 ": "error 3", "\xed\xa0\x80": "error 3", strings.Repeat("x", 200): "hint", strings.Repeat("x", 201): "error 12", strings.Repeat("\u4e2d", 200): "hint", strings.Repeat("\u4e2d", 201): "error 12", strings.Repeat("x", 60000): "error 12", strings.Repeat("x", 201) + "\xff": "error 3", "\x00": "hint a", "\t": "hint a", "cat\r": "hint cat",
	} {
		wantBehind(t, "hint "+word, want)
	}
	wantDialog(t, "hint \xff", "error 3", "hint "+strings.Repeat("x", 201), "error 12", "hint x", "hint")
}

// Two faults of a line: that it is none counts ahead of all codes.
func TestScriptOfTwoFaults(t *testing.T) {
	for _, line := range []string{"put \xff \xff x", "put \xff \xff 1234567890123456", "find x (", "find \xff \xff", "find 1234567890123456 nope:x", "del \xff \xff", "hint \xff \xff", "hint " + strings.Repeat("x", 201) + " x"} {
		wantBehind(t, line, "bad")
	}
	wantBehind(t, "find -1 \xff(", "error 3")
	wantBehind(t, "find -1 "+strings.Repeat("\xff", 2001), "error 2")
	wantBehind(t, "mark none \xff", "error 8")
	wantBehind(t, "mark \xff \xff", "error 8")
}

// What is said of MaxLines is asked of lines that have a code, too.
func TestScriptCountsLinesWithACode(t *testing.T) {
	text := strings.Repeat("find -1 nope:x\nput \xff t 1\ndel a\nmark a (\n", 50)
	wantScript(t, text, strings.Repeat("error 5\nerror 1\nerror 8\nerror 8\n", 50))
	wantScript(t, text+"bad", strings.Repeat("error 5\nerror 1\nerror 8\nerror 8\n", 50)+"bad\n")
	wantScript(t, text+"find 1", "")
	if impl.RunScript("find 1\n"+text) != "" {
		t.Error("201 operations with a code are done")
	}
}
