package tests

import (
	"fmt"
	"strings"
	"testing"

	"loop.example/g00018/impl"
)

func TestScriptLimits(t *testing.T) {
	if impl.MaxLines != 200 {
		t.Errorf("MaxLines is %d", impl.MaxLines)
	}
}

// New Ids and those that are there, with words and without; each put takes the next
// version.
func TestScriptPut(t *testing.T) {
	wantDialog(t,
		"put a red 5 The running cats", "ok 1",
		"put b blue -3", "ok 2",
		"put a green 7 another one", "ok 3",
		"put a green 7 another one", "ok 4",
		"refresh", "ok 2 1",
		"put b blue 9 some words", "ok 5",
		"mark a one", "another [one]",
		"mark b some", "",
		"refresh", "ok 2 2",
		"mark b some", "[some] words",
		"tags *", "1 blue\n1 green\nend",
		"sum *", "sum 2 16",
	)
}

// Blanks between words are one in the body, whatever else there is stays.
func TestScriptPutBody(t *testing.T) {
	wantDialog(t,
		"put a red 5   Cats    and\tdogs,  [x]  ", "ok 1",
		"put b red 5 \u00c9t\u00e9 \u4e2d\u6587\r", "ok 2",
		"put c red 5 the of the", "ok 3",
		"put d red 5 ...", "ok 4",
		"put e red 5 5", "ok 5",
		"refresh", "ok 5 1",
		"mark a *", "Cats and\tdogs, [x]",
		"mark a dog cat", "[Cats] and\t[dogs], [x]",
		"mark a x", "Cats and\tdogs, [[x]]",
		"mark b ete", "[\u00c9t\u00e9] \u4e2d\u6587\r",
		"mark b \u4e2d", "\u00c9t\u00e9 [\u4e2d]\u6587\r",
		"mark b \u6587 \u4e2d", "\u00c9t\u00e9 [\u4e2d\u6587]\r",
		"mark c the", "the of the",
		"mark d *", "...",
		"mark e 5", "[5]",
	)
}

func TestScriptPutNumbers(t *testing.T) {
	for text, want := range map[string]string{
		"0": "0", "7": "7", "-7": "-7", "-0": "0", "00": "0", "007": "7", "-007": "-7", "000000000000007": "7", "-000000000000007": "-7", "1000000000000": "1000000000000", "-1000000000000": "-1000000000000", "001000000000000": "1000000000000", "999999999999": "999999999999",
	} {
		wantDialog(t, "put a red "+text+" x", "ok 1", "put b red "+text, "ok 2", "del b", "ok 3", "refresh", "ok 1 1", "sum *", "sum 1 "+want)
	}
	// As a number of the line, but of no document.
	for _, text := range []string{"1000000000001", "-1000000000001", "999999999999999", "-999999999999999", "123456789012345"} {
		wantDialog(t, "put a red 1", "ok 1", "put a red "+text+" x", "error 1", "put b red "+text, "error 1", "refresh", "ok 1 1", "sum *", "sum 1 1")
	}
	// No number of a line.
	for _, text := range []string{"1234567890123456", "0000000000000000", "-1234567890123456", "-", "--1", "+1", "+", "1-", "1-1", "-1-", "1,5", "1.0", "x", "1x", "x1", "0x1", "1_0", "1e3", "\u0661", "1\t", "\t1", "1\r", "\xff", "1\xff"} {
		wantDialog(t, "put a red 1", "ok 1", "put a red "+text+" x", "bad", "put b red "+text, "bad", "find "+text+" *", "bad", "find "+text, "bad", "refresh", "ok 1 1", "sum *", "sum 1 1")
	}
}

func TestScriptDel(t *testing.T) {
	wantDialog(t,
		"del a", "error 8",
		"put a red 1 cat", "ok 1",
		"del a", "ok 2",
		"del a", "error 8",
		"refresh", "ok 0 0",
		"put a red 1 cat", "ok 3",
		"put b red 1 cat", "ok 4",
		"del A", "error 8",
		"refresh", "ok 2 1",
		"del a", "ok 5",
		"find 9 *", "hits 2\na 1024\nb 1024",
		"refresh", "ok 1 1",
		"find 9 *", "hits 1\nb 1024",
		"del b", "ok 6",
		"find 9 *", "hits 1\nb 1024",
		"refresh", "ok 0 0",
		"find 9 *", "hits 0",
		"del b", "error 8",
	)
}

// Live and Segments, ahead of, between and behind writes.
func TestScriptRefresh(t *testing.T) {
	wantDialog(t,
		"refresh", "ok 0 0",
		"refresh", "ok 0 0",
		"put a t 1", "ok 1",
		"refresh", "ok 1 1",
		"refresh", "ok 1 1",
		"put b t 1", "ok 2",
		"put c t 1", "ok 3",
		"refresh", "ok 3 2",
		"put b t 1", "ok 4",
		"refresh", "ok 3 3",
		"put d t 1", "ok 5",
		"refresh", "ok 4 4",
		"put e t 1", "ok 6",
		"refresh", "ok 5 4",
		"put f t 1", "ok 7",
		"refresh", "ok 6 4",
		"del a", "ok 8",
		"del b", "ok 9",
		"del c", "ok 10",
		"refresh", "ok 3 3",
		"del d", "ok 11",
		"del e", "ok 12",
		"del f", "ok 13",
		"refresh", "ok 0 0",
	)
}

// How many there are in all, however many are told.
func TestScriptFind(t *testing.T) {
	wantBehind(t, "find 0 *", "hits 5")
	wantBehind(t, "find 2 *", "hits 5\na 1024\nb 1024")
	wantBehind(t, "find 5 *", "hits 5\na 1024\nb 1024\nc 1024\nd 1024\ne 1024")
	wantBehind(t, "find 6 *", "hits 5\na 1024\nb 1024\nc 1024\nd 1024\ne 1024")
	wantBehind(t, "find 1000 *", "hits 5\na 1024\nb 1024\nc 1024\nd 1024\ne 1024")
	wantBehind(t, "find 000000000000001 *", "hits 5\na 1024")
	wantBehind(t, "find -0 *", "hits 5")
	wantBehind(t, "find 9 tag:re*", "hits 2\na 1024\nc 1024")
	wantBehind(t, "find 9 tag:Red", "hits 0")
	wantBehind(t, "find 9 n:[0 7]", "hits 3\na 1024\nc 1024\ne 1024")
	wantBehind(t, "find 9 n:[* 0]^3", "hits 2\nb 3072\nc 3072")
	wantBehind(t, "find 9 ru*", "hits 1\na 1024")
	wantBehind(t, "find 9 running*", "hits 0")
	wantBehind(t, "find 9 RU*", "hits 1\na 1024")
	wantBehind(t, `find 9 ~"?og"`, "hits 2\nb 1024\nd 1024")
	wantBehind(t, "find 9 kat~", "hits 3\na 1024\nb 1024\nd 1024")
	wantBehind(t, "find 9 the", "hits 0")
	wantBehind(t, "find 9 -cat", "hits 2\nc 0\ne 0")
	wantBehind(t, "find 9 n:5 n:[5 12]^2", "hits 3\na 3072\nd 2048\ne 2048")
	wantBehind(t, "find 1 n:5 n:[5 12]^2", "hits 3\na 3072")
	wantBehind(t, "find 9 +tag:red* -n:[5 5]", "hits 1\nc 1024")
	wantBehind(t, "find 9 (ru* dog* hous*)@2", "hits 1\nb 2048")
}

// The scores are those of chapter 10, counted over all segments: cat stands in three
// of five documents, which have 10 terms, dog in two.
func TestScriptFindScores(t *testing.T) {
	cat, dog := impl.Weight(5, 3), impl.Weight(5, 2)
	score := func(weight, freq, length int) int { return weight * impl.Strength(freq, length, 5, 10) / 1000 }
	wantBehind(t, "find 9 cats", fmt.Sprintf("hits 3\nd %d\na %d\nb %d", score(cat, 2, 3), score(cat, 1, 2), score(cat, 1, 5)))
	wantBehind(t, "find 2 dog", fmt.Sprintf("hits 2\nd %d\nb %d", score(dog, 1, 3), score(dog, 1, 5)))
	wantBehind(t, `find 9 "cats dog"^2`, fmt.Sprintf("hits 1\nd %d", 2*score(cat+dog, 1, 3)))
	wantBehind(t, `find 9 "cats dog"~1`, fmt.Sprintf("hits 2\nd %d\nb %d", score(cat+dog, 2, 3), score(cat+dog, 1, 5)))
}

// What is found is what was there behind the last refresh, nothing ahead of the
// first one.
func TestScriptFindSeesTheLastRefresh(t *testing.T) {
	wantDialog(t,
		"find 9 *", "hits 0",
		"tags *", "end",
		"sum *", "sum 0 0",
		"hint cat", "hint",
		"mark a cat", "error 8",
		"put a red 5 cat", "ok 1",
		"find 9 *", "hits 0",
		"tags *", "end",
		"sum *", "sum 0 0",
		"hint cat", "hint",
		"mark a cat", "error 8",
		"refresh", "ok 1 1",
		"find 9 *", "hits 1\na 1024",
		"tags *", "1 red\nend",
		"sum *", "sum 1 5",
		"hint cat", "hint cat",
		"mark a cat", "[cat]",
		"put a blue 6 dog", "ok 2",
		"put b blue 7 cow", "ok 3",
		"find 9 *", "hits 1\na 1024",
		"find 9 dog*", "hits 0",
		"tags *", "1 red\nend",
		"sum *", "sum 1 5",
		"hint cat", "hint cat",
		"hint cow", "hint cat",
		"mark a cat", "[cat]",
		"mark b cow", "error 8",
		"del a", "ok 4",
		"find 9 *", "hits 1\na 1024",
		"mark a cat", "[cat]",
		"hint dog", "hint",
		"refresh", "ok 1 1",
		"find 9 *", "hits 1\nb 1024",
		"tags *", "1 blue\nend",
		"sum *", "sum 1 7",
		"hint cow", "hint cow",
		"hint dog", "hint cow",
		"mark a cat", "error 8",
		"mark b cow", "[cow]",
	)
}

func TestScriptTags(t *testing.T) {
	wantBehind(t, "tags *", "2 blue\n2 red\n1 green\nend")
	wantBehind(t, "tags cat", "1 blue\n1 green\n1 red\nend")
	wantBehind(t, "tags n:[7 *]", "1 blue\n1 green\nend")
	wantBehind(t, "tags zzz", "end")
	wantBehind(t, "tags -*", "end")
	wantBehind(t, "  tags   +tag:red   -cat  ", "1 red\nend")
}

// The ten greatest, of equal ones the least, however many there are.
func TestScriptTagsAtMostTen(t *testing.T) {
	text, want := "", ""
	for i := range 12 {
		text += fmt.Sprintf("put d%d t%02d 1 w\n", i, 11-i)
		want += fmt.Sprintf("ok %d\n", i+1)
	}
	text += "put x t11 1 w\nput y t10 1\nput z t10 2 v\nrefresh\n"
	want += "ok 13\nok 14\nok 15\nok 15 1\n"
	wantScript(t, text+"tags *", want+"3 t10\n2 t11\n1 t00\n1 t01\n1 t02\n1 t03\n1 t04\n1 t05\n1 t06\n1 t07\nend\n")
	wantScript(t, text+"tags w", want+"2 t11\n1 t00\n1 t01\n1 t02\n1 t03\n1 t04\n1 t05\n1 t06\n1 t07\n1 t08\nend\n")
	wantSameScript(t, text+"tags *\ntags w\ntags v\ntags zzz")
}

func TestScriptSum(t *testing.T) {
	wantBehind(t, "sum *", "sum 5 21")
	wantBehind(t, "sum tag:red", "sum 2 5")
	wantBehind(t, "sum tag:blue", "sum 2 4")
	wantBehind(t, "sum n:[-5 -1]", "sum 1 -3")
	wantBehind(t, "sum n:0", "sum 1 0")
	wantBehind(t, "sum zzz", "sum 0 0")
	text := ""
	for i := range 100 {
		text += fmt.Sprintf("put d%d t -1000000000000\n", i)
	}
	if told := impl.RunScript(text + "refresh\nsum *"); !strings.HasSuffix(told, "\nok 100 1\nsum 100 -100000000000000\n") {
		t.Errorf("the sum of a hundred: %s", short(told[max(0, len(told)-50):]))
	}
}

func TestScriptMark(t *testing.T) {
	wantBehind(t, "mark a cats", "The running [cats]")
	wantBehind(t, "mark a CAT", "The running [cats]")
	wantBehind(t, "mark a run", "The [running] cats")
	wantBehind(t, "mark a the", "The running cats")
	wantBehind(t, "mark a dog", "The running cats")
	wantBehind(t, "mark a *", "The running cats")
	wantBehind(t, "mark a -cat", "The running cats")
	wantBehind(t, "mark a tag:red n:5", "The running cats")
	wantBehind(t, "mark a tag:cat", "The running cats")
	wantBehind(t, "mark b body:ca* ~\"?og\" kat~", "a house of [cats] and [dogs]")
	wantBehind(t, `mark b "house of dogs"`, "a [house] of cats and [dogs]")
	wantBehind(t, "mark b +zzz +dog", "a house of cats and [dogs]")
	wantBehind(t, "mark d cat -(dog)", "[cats] [cats] dog")
	wantBehind(t, "mark c cat", "")
	wantBehind(t, "mark c *", "")
	wantBehind(t, "mark e of", "the of")
	wantBehind(t, "mark f cat", "error 8")
	wantBehind(t, "mark A cat", "error 8")
	wantBehind(t, "  mark   a   cats  ", "The running [cats]")
}

// What is near, the nearest first, at most five; the word is taken as it is.
func TestScriptHint(t *testing.T) {
	wantBehind(t, "hint cat", "hint cat a")
	wantBehind(t, "hint cats", "hint cat")
	wantBehind(t, "hint Cat", "hint cat a")
	wantBehind(t, "hint CAT", "hint")
	wantBehind(t, "hint running", "hint")
	wantBehind(t, "hint rum", "hint run")
	wantBehind(t, "hint red", "hint and run")
	wantBehind(t, "hint zzzzz", "hint")
	wantBehind(t, "hint *", "hint a")
	wantBehind(t, "hint \u00e9", "hint a")
	wantBehind(t, "  hint   dogs  ", "hint dog")
	wantDialog(t,
		"put a t 1 bat cat dat eat fat gat hat at", "ok 1",
		"put b t 1 cat cats cart", "ok 2",
		"put c oat 1", "ok 3",
		"refresh", "ok 3 1",
		"hint cat", "hint cat at bat cart dat",
		"hint zat", "hint at bat cat dat eat",
		"hint hat", "hint hat at bat cat dat",
		"hint t", "hint at bat cat dat eat",
		"hint oat", "hint at bat cat dat eat",
		"del b", "ok 4",
		"refresh", "ok 2 1",
		"hint cart", "hint cat at bat dat eat",
	)
}

// Each kind of query behind each operation that takes one.
func TestScriptOfEachQuery(t *testing.T) {
	for _, query := range scriptQueries() {
		for _, head := range []string{"find 0 ", "find 2 ", "find 9 ", "find 1000 ", "find 1001 ", "find -1 ", "tags ", "sum ", "mark a ", "mark b ", "mark c ", "mark e ", "mark none "} {
			wantSameScript(t, cribLines()+head+query+"\n")
			wantSameScript(t, head+query)
		}
	}
}

// The lines of the document's calls stand in one answer, one behind the other.
func TestScriptOfManyLines(t *testing.T) {
	text := cribLines()
	for _, query := range []string{"cat", "*", "tag:red", "zzz", "(", "n:[0 7]"} {
		text += "find 3 " + query + "\ntags " + query + "\nsum " + query + "\nmark b " + query + "\n\nwhat " + query + "\nhint " + query + "\nput x t 1 " + query + "\nrefresh\n"
	}
	wantSameScript(t, text)
	if told := impl.RunScript(text); strings.Count(told, "\n") < 60 {
		t.Errorf("%d lines are told", strings.Count(told, "\n"))
	}
}
