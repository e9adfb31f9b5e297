package tests

import (
	"fmt"
	"strings"
	"testing"

	"loop.example/g00018/impl"
)

func TestMeaningOfEachKind(t *testing.T) {
	for text, want := range map[string]string{
		"*": "b c d1 d2 e z",
		// A field of its own, with Fold, stems, stops and synonyms.
		"body:cat": "c d1 d2 e", "body:CATS": "d1 d2 e", "body:Pet": "c d1", "body:feline": "c d1", "body:the": "", `body:"the cat"`: "c d1 d2 e", "body:ran": "", "body:runs": "d2",
		`body:"cat dog"`: "", `body:"cat dog"~1`: "", `body:"cat dog"~2`: "d1", `body:"cat of the dog"`: "d1", `body:"run cat"`: "d2", `body:"dog run run cat"`: "d2", "body:ete": "e", "body:\u00e9T\u00c9": "e",
		// One that is taken as it is.
		"plain:cat": "d1 d2", "plain:Cat": "d1", "plain:CAT": "", `plain:"dog cat"`: "d2", `plain:"cat dog"`: "d2", `plain:"Cat DOG"~1`: "d1", `plain:"c d"`: "", `plain:"c d"~20`: "", `plain:"a c"~1`: "b", "plain:\u4e2d\u6587": "e",
		// Without a field: all of KText, no other.
		"cat": "c d1 d2 e", "Cat": "c d1 d2 e", "blue": "c", "red": "c", "7": "", "ab": "c d2",
		// Words as they are.
		"tag:red": "d1", "tag:Red": "d2", `tag:"red blue"`: "c", `tag:"red blue"~9`: "c", "tag:blue": "b d1", `tag:""`: "", "tag:7": "e", "tag:r\u00e9d": "c",
		// Numbers.
		"n:5": "d1", `n:\-5`: "d2", `n:"-5"~3`: "d2", "n:7": "d2", "n:0": "e", "year:1900": "c", "n:1000000000000": "e", `n:""`: "",
		// Beginnings.
		"ca*": "c d1 d2 e", "Ca*": "d1 d2 e", "body:CA*": "d1 d2 e", "plain:CA*": "", "plain:Ca*": "d1", "tag:r*": "c d1", "tag:red*": "c d1", `tag:red\ *`: "c", "tag:\u4e2d*": "e", "n:5*": "", "body:the*": "", "body:\u00c9T*": "e", "plain:\u00c9t*": "e", "pe*": "c d1",
		// Patterns, which are not folded.
		`~"*"`: "b c d1 d2 e", `~"?"`: "b c d1 e", `~"ca?"`: "d1 d2 e", `~"C?t"`: "d1", `body:~"C?t"`: "", `body:~"c?t"`: "d1 d2 e", `tag:~"*"`: "b c d1 d2 e", `tag:~"*e*"`: "b c d1 d2", `tag:~"red?blue"`: "c", `tag:~"r?d"`: "c d1", `n:~"*"`: "", `grams:~"??"`: "c d2",
		// Near words.
		"cet~1": "c d1 d2 e", "body:CET~1": "c d1 d2 e", "plain:CET~1": "", "plain:CET~2": "d1", "plain:cxx~2": "b d1 d2", "tag:rod~1": "c d1", "tag:rod~2": "c d1 d2", "n:6~2": "", "tag:1~": "e", "tag:17~1": "e",
		// Ranges.
		"n:[5 7]": "d1 d2", "n:[6 6]": "", "n:[* *]": "d1 d2 e", "n:[* -6]": "e", "n:[8 *]": "e", "year:[-2000 0]": "b", "tag:[* *]": "", "body:[* *]": "", "n:[-5 -5]": "d2", "n:[-4 4]": "e", "year:[1901 1999]": "",
	} {
		wantTextIds(t, scene(), sceneDocs(), text, want)
	}
}

// Every kind of node with every kind of field and text, without and with a field.
func TestMeaningOfAllLeaves(t *testing.T) {
	texts := []string{"cat", "Cat", "cats", "dog", "the", "red", "red blue", "the cat", "cat the dog", "running", "ab", "abc", "x", "5", "-5", "7", "\u00c9t\u00e9", "\u4e2d\u6587", "?", "*", "c?t", "r*", "..", "a b c", "b  c", "c d", "pet"}
	m := senseOf(scene(), sceneDocs())
	for _, field := range []string{"", "body", "grams", "n", "plain", "tag", "year"} {
		for _, text := range texts {
			for kind := impl.QTerm; kind <= impl.QRange; kind++ {
				n := impl.Node{Kind: kind, Field: field, Text: text}
				switch kind {
				case impl.QPhrase:
					n.Slop = len(text) % 3
				case impl.QFuzzy:
					n.Slop = 1 + len(text)%2
				case impl.QRange:
					n.Field, n.Text, n.Lo, n.Hi = "n", "", -len(text), 3*len(text)
				}
				m.wantHits(t, leaf(n).query())
			}
		}
	}
}

// Without a field, and where none is of KText, there is nothing to look at.
func TestMeaningWithoutTextFields(t *testing.T) {
	s := schemaOf(numberField("n"), wordField("w"))
	docs := []impl.Doc{docWith("a", numbersIn("n", 1), textsIn("w", "x"))}
	for _, text := range []string{"x", `"x"`, "x*", `~"*"`, "x~1", "1"} {
		wantTextIds(t, s, docs, text, "")
		wantTextIds(t, s, docs, "-"+text, "a")
	}
	wantTextIds(t, s, docs, "w:x n:1", "a")
	wantTextIds(t, s, docs, "* -(x 1)", "a")
}

func TestMeaningOfNoDocs(t *testing.T) {
	for _, text := range []string{"*", "cat", "-cat", "n:[* *]", "tag:red", `""`} {
		wantMeaning(t, scene(), nil, queryOf(t, text), nil, impl.OK)
		wantMeaning(t, scene(), []impl.Doc{}, queryOf(t, text), nil, impl.OK)
	}
}

// All documents of a few words, and all phrases of fewer, with each slop.
func TestMeaningOfAllSmallPhrases(t *testing.T) {
	words := []string{"a", "b", "x"}
	texts := []string{""}
	for from := 0; len(texts[from]) < 8; from++ {
		for _, word := range words {
			texts = append(texts, texts[from]+word+" ")
		}
	}
	var docs []impl.Doc
	for i, text := range texts {
		docs = append(docs, docWith(fmt.Sprintf("d%d", i), textsIn("t", text)))
	}
	for _, a := range []impl.Analyzer{
		{}, {Stops: []string{"x"}}, {Synonyms: []impl.Synonym{{From: "a", To: "b"}, {From: "x", To: "y"}}},
		{Stops: []string{"b"}, Synonyms: []impl.Synonym{{From: "a", To: "x"}, {From: "x", To: "b"}}},
	} {
		m := senseOf(schemaOf(textField("t", a)), docs)
		for i, text := range texts {
			if i >= 40 {
				break
			}
			for slop := range 4 {
				m.wantHits(t, leaf(impl.Node{Kind: impl.QPhrase, Text: strings.TrimSpace(text), Slop: slop}).query())
			}
		}
	}
}

func TestMeaningOfPlacesApart(t *testing.T) {
	s := schemaOf(textField("t", impl.Analyzer{Stops: []string{"of", "the"}}))
	doc := func(text string) []impl.Doc { return []impl.Doc{docWith("d", textsIn("t", text))} }
	for apart := range 25 {
		text := "left " + strings.Repeat("mid ", apart) + "right"
		for slop := range 21 {
			q := leaf(impl.Node{Kind: impl.QPhrase, Text: "left right", Slop: slop}).query()
			wantIds(t, s, doc(text), q, strings.Repeat("d", btoi(slop >= apart)))
			// Words that are left out count as places, on both sides.
			q = leaf(impl.Node{Kind: impl.QPhrase, Text: "of left of the right the", Slop: slop}).query()
			wantIds(t, s, doc(text), q, strings.Repeat("d", btoi(slop >= apart-2 && apart >= 2)))
		}
	}
	// Slop does not let a place stand ahead of where it is wanted.
	for _, text := range []string{"right left", "left of", "right", "x left x x right x", ""} {
		q := leaf(impl.Node{Kind: impl.QPhrase, Text: "left right", Slop: 1}).query()
		wantIds(t, s, doc(text), q, "")
	}
	// Each place may use the slop for itself, and two places may be found at one.
	q := leaf(impl.Node{Kind: impl.QPhrase, Text: "a b c", Slop: 2}).query()
	for text, want := range map[string]string{"a x x b c": "d", "a b x x c": "d", "a x x b x c": "", "a x b x c": "d", "a x x b": "", "a c c b": "d", "a c b": "", "a x c b": "d", "c b a": ""} {
		wantIds(t, s, doc(text), q, want)
	}
	q = leaf(impl.Node{Kind: impl.QPhrase, Text: "a a a", Slop: 2}).query()
	for text, want := range map[string]string{"a": "", "a a": "", "a x a": "d", "a x x a": "d", "a a a": "d", "a x x x a": ""} {
		wantIds(t, s, doc(text), q, want)
	}
}

func btoi(b bool) int {
	if b {
		return 1
	}
	return 0
}

// A finding lies in one text of a field, however long and far on.
func TestMeaningOfSeveralTexts(t *testing.T) {
	docs := []impl.Doc{
		docWith("one", textsIn("plain", "a b", "c d")), docWith("two", textsIn("plain", "a", "b", "c b d")), docWith("three", textsIn("plain", "", "", "b c")), docWith("four", textsIn("plain", "x b", "c x", "x b c x")),
		docWith("five", textsIn("body", "b"), textsIn("plain", "c")),
	}
	for text, want := range map[string]string{
		`"b c"`: "four three", `"b c"~20`: "four three", `"a b"`: "one", `"c d"`: "one", `"c d"~1`: "one two", `"a b c d"~20`: "", "b": "five four one three two", `"b b"~20`: "", `"c c"~20`: "", `"d"`: "one two",
	} {
		wantTextIds(t, scene(), docs, text, want)
	}
	long := strings.TrimSpace(strings.Repeat("a ", 32))
	q := leaf(impl.Node{Kind: impl.QPhrase, Text: long + "a", Slop: 20}).query()
	if len(q.Nodes[0].Text) > 64 || !impl.QueryOK(q) {
		t.Fatalf("%q", q.Nodes[0].Text)
	}
	var texts []string
	for range 16 {
		texts = append(texts, strings.Repeat("a ", 10))
	}
	wantIds(t, scene(), []impl.Doc{docWith("d", textsIn("plain", texts...))}, q, "")
}

func TestMeaningOfChoices(t *testing.T) {
	s := scene()
	docs := []impl.Doc{
		docWith("cat", textsIn("body", "cat")), docWith("feline", textsIn("body", "feline")), docWith("pet", textsIn("body", "pet")), docWith("dog", textsIn("body", "dog")),
		docWith("catdog", textsIn("body", "cat dog")), docWith("pets", textsIn("body", "pet pets cat")), docWith("none", textsIn("body", "")),
	}
	for text, want := range map[string]string{
		"body:cat": "cat catdog dog feline pet pets", "body:dog": "cat catdog dog pet pets", "body:feline": "cat catdog feline pets", "body:pet": "cat catdog dog pet pets",
		`body:"cat dog"`: "catdog pets", `body:"dog cat"`: "catdog pets", `body:"feline pet"`: "catdog", `body:"pet feline"`: "pets", `body:"cat cat"`: "catdog pets", `body:"cat cat cat"`: "pets",
	} {
		wantTextIds(t, s, docs, text, want)
	}
}

// A text of which nothing is left matches nothing, also beside others.
func TestMeaningOfNothingLeft(t *testing.T) {
	docs := sceneDocs()
	for _, text := range []string{`""`, `".."`, `"-"`, `body:"the of"`, "body:the", `grams:"x y"`, "grams:x", `"\\"`, `"'_'"`, `tag:""`, `n:""`} {
		wantTextIds(t, scene(), docs, text, "")
		wantTextIds(t, scene(), docs, "+* +"+text, "")
		wantTextIds(t, scene(), docs, "+* "+text, "b c d1 d2 e z")
		wantTextIds(t, scene(), docs, "-"+text, "b c d1 d2 e z")
	}
	wantTextIds(t, scene(), docs, `plain:"the"`, "")
	wantTextIds(t, scene(), append(docs, docWith("the", textsIn("body", "the"), textsIn("plain", "the"))), `the`, "the")
}

// Of a text of which Analyze has a code no term is told.
func TestMeaningOfTooManyTerms(t *testing.T) {
	a := impl.Analyzer{Lo: 1, Hi: 8}
	for i := range 64 {
		a.Synonyms = append(a.Synonyms, impl.Synonym{From: "many", To: fmt.Sprintf("%064d", i*i*i*98765+i*4321)})
	}
	s := schemaOf(textField("t", a), textField("u", impl.Analyzer{}))
	text := "many many many many many many many many many many many many"
	if _, code := impl.Analyze(a, text); code != impl.ErrMany {
		t.Fatalf("code %d", code)
	}
	docs := []impl.Doc{docWith("a", textsIn("t", "many", "m")), docWith("b", textsIn("u", text))}
	wantTextIds(t, s, docs, `t:"`+text+`"`, "")
	wantTextIds(t, s, docs, `"`+text+`"`, "b")
	wantTextIds(t, s, docs, `t:many`, "a")
	wantTextIds(t, s, docs, `t:m`, "a")
}

func TestMeaningOfNumbersAsTexts(t *testing.T) {
	docs := []impl.Doc{
		docWith("five", numbersIn("n", 5)), docWith("below", numbersIn("n", -5)), docWith("nought", numbersIn("n", 0)), docWith("most", numbersIn("n", greatestNumber)), docWith("least", numbersIn("n", 3, -greatestNumber, 4)), docWith("none"),
		docWith("ten", numbersIn("n", 10), numbersIn("year", 5)),
	}
	for text, want := range map[string]string{
		"5": "five", "05": "five", "000000000000005": "five", "0000000000000005": "", "00000000000000000005": "", "-5": "below", "-05": "below", "-000000000000005": "below", "-0000000000000005": "",
		"0": "nought", "-0": "nought", "00": "nought", "-00": "nought", "000000000000000": "nought", "0000000000000000": "", "1000000000000": "most", "-1000000000000": "least", "001000000000000": "most", "0001000000000000": "",
		"1000000000001": "", "-1000000000001": "", "999999999999999": "", "-999999999999999": "", "9999999999999999": "", "3": "least", "4": "least", "10": "ten", "1": "", "9223372036854775807": "", "18446744073709551621": "",
		"-": "", "+5": "", " 5": "", "5 ": "", "--5": "", "5-": "", "-5-": "", "- 5": "", "5.0": "", "5e0": "", "0x5": "", "1_0": "", "5,": "", "\u0665": "", "five": "", "5\x00": "", "\uff15": "", "1 0": "", "5 5": "", "10 5": "", "*": "", "?": "",
	} {
		wantIds(t, scene(), docs, leaf(impl.Node{Kind: impl.QTerm, Field: "n", Text: text}).query(), want)
		wantIds(t, scene(), docs, leaf(impl.Node{Kind: impl.QPhrase, Field: "n", Text: text, Slop: len(text) % 21}).query(), want)
	}
	wantIds(t, scene(), docs, leaf(impl.Node{Kind: impl.QPhrase, Field: "n"}).query(), "")
	wantTextIds(t, scene(), docs, "year:5", "ten")
}

func TestMeaningOfRanges(t *testing.T) {
	var docs []impl.Doc
	ends := []int{-greatestNumber, -greatestNumber + 1, -2, -1, 0, 1, 2, greatestNumber - 1, greatestNumber}
	for i, n := range ends {
		docs = append(docs, docWith(fmt.Sprintf("d%d", i), numbersIn("n", n)), docWith(fmt.Sprintf("two%d", i), numbersIn("n", n, 1)))
	}
	for _, lo := range ends {
		for _, hi := range ends {
			if lo <= hi {
				wantSameMeaning(t, scene(), docs, leaf(impl.Node{Kind: impl.QRange, Field: "n", Lo: lo, Hi: hi}).query())
				wantIds(t, scene(), docs, leaf(impl.Node{Kind: impl.QRange, Field: "tag", Lo: lo, Hi: hi}).query(), "")
				wantIds(t, scene(), docs, leaf(impl.Node{Kind: impl.QRange, Field: "year", Lo: lo, Hi: hi}).query(), "")
			}
		}
	}
}

// Near words by characters, not bytes; patterns by characters too.
func TestMeaningOfOtherCharacters(t *testing.T) {
	docs := []impl.Doc{
		docWith("a", textsIn("plain", "\u00e9t\u00e9"), textsIn("tag", "\u00e9t\u00e9")), docWith("b", textsIn("plain", "ete"), textsIn("tag", "ete")), docWith("c", textsIn("body", "\u00c9T\u00c9"), textsIn("tag", "\u00c9T\u00c9")), docWith("d", textsIn("tag", "\u4e2d\u6587\U0001f600")),
	}
	for text, want := range map[string]string{
		"plain:ete~1": "b", "plain:ete~2": "a b", "tag:ete~2": "a b", "tag:\u4e2d\u6587~1": "d", "tag:\u4e2d~2": "d", `tag:~"???"`: "a b c d", `tag:~"??"`: "", "tag:\u00c9*": "c", "plain:\u00c9*": "", "body:\u00c9*": "c", "body:e*": "c", "body:\u00c9t\u00c9~1": "c", `body:~"\u00c9*"`: "", `body:~"e??"`: "c",
		"\u00e9t\u00e9": "a c", "\u00c9T\u00c9": "c", "ete": "b c",
	} {
		wantTextIds(t, scene(), docs, text, want)
	}
}

// Terms that are as long as can be, of characters of one and of several bytes.
func TestMeaningOfLongTerms(t *testing.T) {
	long := strings.Repeat("a", 64)
	wide := strings.Repeat("\u00e9", 32)
	docs := []impl.Doc{docWith("l", textsIn("plain", long), textsIn("tag", long)), docWith("w", textsIn("plain", wide), textsIn("tag", wide)), docWith("x", textsIn("plain", long+"a"), textsIn("tag", long[1:]))}
	for _, field := range []string{"", "plain", "tag"} {
		for _, text := range []string{long, wide, long[1:], wide[2:], long[:30], wide[:60]} {
			for kind := impl.QTerm; kind <= impl.QFuzzy; kind++ {
				n := impl.Node{Kind: kind, Field: field, Text: text}
				if kind == impl.QFuzzy {
					n.Slop = 2
				}
				wantSameMeaning(t, scene(), docs, leaf(n).query())
			}
		}
	}
	wantTextIds(t, scene(), docs, "tag:"+long, "l")
	wantTextIds(t, scene(), docs, "plain:"+long, "l")
	wantTextIds(t, scene(), docs, "tag:"+long[1:]+"*", "l x")
}
