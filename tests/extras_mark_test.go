package tests

import (
	"fmt"
	"math/rand"
	"strings"
	"testing"

	"loop.example/g00018/impl"
)

func TestHighlightOfEachKind(t *testing.T) {
	plain := impl.Analyzer{}
	for query, want := range map[string]string{
		"cat": "a [cat], Cat cats dog", "Cat": "a cat, [Cat] cats dog", "ca": "a cat, Cat cats dog", "x": "a cat, Cat cats dog",
		`"cat dog"`: "a [cat], Cat cats [dog]", `"dog cat"~3`: "a [cat], Cat cats [dog]", `"none cat"`: "a [cat], Cat cats dog", `""`: "a cat, Cat cats dog", `"..."`: "a cat, Cat cats dog",
		"ca*": "a [cat], Cat [cats] dog", "cat*": "a [cat], Cat [cats] dog", "cats*": "a cat, Cat [cats] dog", "catsx*": "a cat, Cat cats dog", "C*": "a cat, [Cat] cats dog",
		`~"*"`: "[a] [cat], [Cat] [cats] [dog]", `~"???"`: "a [cat], [Cat] cats [dog]", `~"c*s"`: "a cat, Cat [cats] dog", `~"?at*"`: "a [cat], [Cat] [cats] dog", `~"c\?t"`: "a [cat], Cat cats dog", `~"*t"`: "a [cat], [Cat] cats dog", `~"?"`: "[a] cat, Cat cats dog",
		"cat~1": "a [cat], [Cat] [cats] dog", "cot~1": "a [cat], Cat cats dog", "cot~2": "a [cat], [Cat] [cats] [dog]", "dot~1": "a cat, Cat cats [dog]", "do~2": "[a] cat, Cat cats [dog]", "horse~2": "a cat, Cat cats dog",
		// What asks for no term of a text marks nothing.
		"*": "a cat, Cat cats dog", "* cat": "a [cat], Cat cats dog",
	} {
		wantMarked(t, plain, query, want)
	}
}

// The field of a node: none, this one, another one, of each kind.
func TestHighlightOfEachField(t *testing.T) {
	s := schemaOf(numberField("n"), textField("other", impl.Analyzer{}), textField("t", impl.Analyzer{}), wordField("w"))
	d := docWith("d", numbersIn("n", 5), textsIn("other", "cat 5", "a dog"), textsIn("t", "5 cat", "cats"), textsIn("w", "cat"))
	for query, one := range map[string]string{"%scat": "5 [cat]", `%s"a cat"`: "5 [cat]", "%sca*": "5 [cat]", `%s~"c?t"`: "5 [cat]", "%scap~1": "5 [cat]", "%s5": "[5] cat", `%s"5"`: "[5] cat", `%s"cat 5"~2`: "[5] [cat]"} {
		two := map[bool]string{true: "[cats]", false: "cats"}[query == "%sca*"]
		for field, asked := range map[string]bool{"": true, "t:": true, "other:": false, "w:": false, "n:": false} {
			want := []string{one, two}
			if !asked {
				want = []string{"5 cat", "cats"}
			}
			q := queryOf(t, fmt.Sprintf(query, field))
			wantHighlight(t, s, d, "t", q, want, impl.OK)
			wantSameHighlight(t, s, d, "t", q)
			wantSameHighlight(t, s, d, "other", q)
		}
	}
	wantHighlight(t, s, d, "t", queryOf(t, "n:[1 9]"), []string{"5 cat", "cats"}, impl.OK)
	wantHighlight(t, s, d, "t", queryOf(t, "other:5 t:cats w:cat n:5"), []string{"5 cat", "[cats]"}, impl.OK)
	wantHighlight(t, s, d, "other", queryOf(t, "other:5 t:cats w:cat n:5"), []string{"cat [5]", "a dog"}, impl.OK)
}

func TestHighlightUnderOthers(t *testing.T) {
	for query, want := range map[string]string{
		"cat dog": "[cat] [dog] fox", "+cat dog": "[cat] [dog] fox", "+cat +dog": "[cat] [dog] fox", "(cat) ((dog))": "[cat] [dog] fox", "((((((cat))))))": "[cat] dog fox", "(((((((cat)))))))": "[cat] dog fox",
		// RoleNot on the node itself.
		"-cat": "cat dog fox", "-cat dog": "cat [dog] fox", "dog -cat -fox": "cat [dog] fox", "cat -cat": "[cat] dog fox", "-ca* -~\"d*\" -foxy~1 -\"dog cat\"": "cat dog fox", "(dog -cat)": "cat [dog] fox", "((dog (-cat)))": "cat [dog] fox",
		// On a node above it, right above or far above.
		"-(cat) dog": "cat [dog] fox", "-(cat dog) fox": "cat dog [fox]", "fox -((cat) dog)": "cat dog [fox]", "fox -(((((cat)))))": "cat dog [fox]", "fox -(+cat +(dog))": "cat dog [fox]", "(fox -(+cat))": "cat dog [fox]",
		// Twice not is not asked for either.
		"-(-cat) dog": "cat [dog] fox", "-(-(-cat)) dog": "cat [dog] fox", "fox -(dog -cat)": "cat dog [fox]", "+(-(+cat))": "cat dog fox",
		// The one that asks counts, whatever the others do.
		"-(cat) (cat)": "[cat] dog fox", "+none +cat": "[cat] dog fox", "(cat dog)@9": "[cat] [dog] fox", "-* cat": "[cat] dog fox", "cat^99 dog^2": "[cat] [dog] fox",
	} {
		wantMarked(t, impl.Analyzer{}, query, want)
	}
}

func TestHighlightByAnalyzers(t *testing.T) {
	stops := impl.Analyzer{Stops: []string{"the", "of"}}
	for _, c := range []struct {
		a           impl.Analyzer
		query, want string
	}{
		{stops, "the", "the cat of the dog"}, {stops, `"the cat of"`, "the [cat] of the dog"}, {stops, "the*", "the cat of the dog"}, {stops, `~"*"`, "the [cat] of the [dog]"}, {stops, "the~1", "the cat of the dog"}, {stops, `"of the"`, "the cat of the dog"},
		{impl.Analyzer{Fold: true}, "CAT", "[Cat] [cat] [C\u00c4T] cot"}, {impl.Analyzer{Fold: true}, "c\u00e4*", "[Cat] [cat] [C\u00c4T] cot"}, {impl.Analyzer{Fold: true}, "C\u00d6X~1", "Cat cat C\u00c4T [cot]"}, {impl.Analyzer{Fold: true}, `~"C*"`, "Cat cat C\u00c4T cot"}, {impl.Analyzer{Fold: true}, `~"c*"`, "[Cat] [cat] [C\u00c4T] [cot]"}, {impl.Analyzer{}, "CA*", "Cat cat cot"}, {impl.Analyzer{}, "CAT~1", "Cat cat [CA] [CAT]"},
		{impl.Analyzer{Stem: true}, "running", "[run] [runs] [running] [runned] runner"}, {impl.Analyzer{Stem: true}, "run", "[run] [runs] [running] [runned] runner"}, {impl.Analyzer{Stem: true}, "running*", "run runs running runned runner"}, {impl.Analyzer{Stem: true}, "run*", "[run] [runs] [running] [runned] [runner]"}, {impl.Analyzer{Stem: true}, `~"runs"`, "run runs running"}, {impl.Analyzer{Stem: true}, "runs~1", "[run] [runs] [running]"},
		{impl.Analyzer{Phone: true}, "robert", "[Robert] and [Rupert], not Rubin"}, {impl.Analyzer{Phone: true}, "r163*", "[Robert] and [Rupert], not Rubin"}, {impl.Analyzer{Phone: true}, "r*", "[Robert] and [Rupert], not [Rubin]"}, {impl.Analyzer{Phone: true}, "ro*", "Robert and Rupert"},
		{impl.Analyzer{Synonyms: []impl.Synonym{{From: "cat", To: "pet"}, {From: "dog", To: "pet"}}}, "pet", "a [cat], a [dog], a [pet]"}, {impl.Analyzer{Synonyms: []impl.Synonym{{From: "cat", To: "pet"}, {From: "dog", To: "pet"}}}, "cat", "a [cat], a [dog], a [pet]"}, {impl.Analyzer{Synonyms: []impl.Synonym{{From: "cat", To: "pet"}}}, "pe*", "a [cat], a dog, a [pet]"}, {impl.Analyzer{Synonyms: []impl.Synonym{{From: "cat", To: "pet"}}}, "pot~1", "a [cat], a dog, a [pet]"}, {impl.Analyzer{Synonyms: []impl.Synonym{{From: "cat", To: "pet"}}}, `~"p?t"`, "a [cat], a dog, a [pet]"},
		{impl.Analyzer{Lo: 2, Hi: 3}, "cab", "[abc] [cat] [dab] dog a"}, {impl.Analyzer{Lo: 2, Hi: 3}, "ab*", "[abc] cat [dab] dog a"}, {impl.Analyzer{Lo: 2, Hi: 3}, `~"b?"`, "[abc] cat dab dog a"}, {impl.Analyzer{Lo: 2, Hi: 3}, "a", "abc cat dab dog a"}, {impl.Analyzer{Lo: 2, Hi: 3}, "dox~1", "abc cat dab [dog] a"}, {impl.Analyzer{Lo: 1, Hi: 1}, "god", "a [dog] [gap] [do]"},
		{impl.Analyzer{Fold: true, Stem: true, Stops: []string{"the"}, Synonyms: []impl.Synonym{{From: "cats", To: "felines"}}}, "FELINE", "THE [Cats], the cat, the [feline]"}, {impl.Analyzer{Fold: true, Stem: true, Stops: []string{"the"}, Synonyms: []impl.Synonym{{From: "cats", To: "felines"}}}, "The Cats", "the [CATS], the [cat], the [felines]"},
	} {
		wantMarked(t, c.a, c.query, c.want)
	}
}

// Words that touch have one pair of marks, whatever asks for them; those with
// something between have two.
func TestHighlightOfWordsThatTouch(t *testing.T) {
	for _, c := range []struct{ query, want string }{
		{"\u4e2d", "[\u4e2d]\u6587"}, {"\u6587", "\u4e2d[\u6587]"}, {"\"\u4e2d\u6587\"", "[\u4e2d\u6587]"}, {"\u4e2d \u6587", "[\u4e2d\u6587]"}, {"\u6587 \u4e2d", "[\u4e2d\u6587]"}, {"\"\u4e2d\u6587\"", "[\u4e2d] [\u6587]"}, {"\"\u4e2d\u6587\"", "[\u4e2d\u6587\u4e2d\u4e2d]\u5b57[\u6587]"}, {"\u4e2d \u5b57", "[\u4e2d]\u6587[\u5b57\u4e2d]"},
		{"\u4e2d cat", "[cat\u4e2d]"}, {"\u4e2d cat", "[\u4e2dcat]"}, {"\u4e2d cat", "[\u4e2dcat\u4e2d]"}, {"cat", "\u4e2d[cat]\u4e2d"}, {"\u4e2d", "[\u4e2d]cat[\u4e2d]"}, {"\u4e2d cat", "[\u4e2d]-[cat]"}, {"\u4e2d cat", "[\u4e2d]'[cat]"}, {"\u4e2d cat", "[cat]_[\u4e2d]"}, {"\u4e2d 9", "[\u4e2d]9's 9s [9\u4e2d9]"},
		{`~"?"`, "[\u4e2d\u6587a\u4e2d] ab [\u6587]"}, {"it's s", "[it's] [s] it s'it's"}, {"it s", "it's [s] [it] s'it's"}, {"a b", "[a],[b] [a]'\u3042 a_b"}, {"a b \u3042", "[a],[b] [a]'[\u3042] a_b"},
	} {
		wantMarked(t, impl.Analyzer{}, c.query, c.want)
	}
	// Two terms of one word, both asked for, and a word that touches it.
	pet := impl.Analyzer{Synonyms: []impl.Synonym{{From: "cat", To: "pet"}}}
	wantMarked(t, pet, "cat pet", "[cat] [pet] dog")
	wantMarked(t, pet, "pet \u4e2d", "[\u4e2dcat\u4e2d] [pet\u4e2d]dog")
	grams := impl.Analyzer{Lo: 1, Hi: 2}
	wantMarked(t, grams, "a b", "[abab] c \u4e2d[ba]")
	wantMarked(t, grams, `~"*"`, "[\u4e2dab] [\u4e2d\u6587\u4e2d], [c]")
}

// Marks at the ends of texts, characters of several bytes, and brackets that the
// text has of its own.
func TestHighlightAtTheEnds(t *testing.T) {
	for _, want := range []string{
		"[cat]", "[cat] dog", "dog [cat]", "[cat] [cat]", " [cat] ", "[cat].", ".[cat]", "\u00e9t\u00e9 [cat] \u00e9t\u00e9", "\U0001f600[cat]\U0001f600", "\u20ac[cat]\u20ac[cat]", "\u4e2d[cat]\u6587", "\x00[cat]\x00", "\n[cat]\n", "", " ", "...", "dog", "\u00e9\u00e9\u00e9",
	} {
		wantMarked(t, impl.Analyzer{}, "cat", want)
	}
	for _, want := range []string{"[\u00e9t\u00e9] cat", "cat [\u00e9t\u00e9]", "\U0001f600 [\u00e9t\u00e9]\u20ac \u00c9t\u00e9"} {
		wantMarked(t, impl.Analyzer{}, "\u00e9t\u00e9", want)
	}
	s := small()
	for text, want := range map[string]string{
		"[cat]": "[[cat]]", "[[cat]]": "[[[cat]]]", "cat]": "[cat]]", "[cat": "[[cat]", "[dog] cat": "[dog] [cat]", "[": "[", "]cat[": "][cat][", "[]": "[]", "cat][cat": "[cat]][[cat]", "[c]at": "[c]at", "c[a]t": "c[a]t",
	} {
		d := docWith("d", textsIn("t", text))
		wantHighlight(t, s, d, "t", queryOf(t, "cat"), []string{want}, impl.OK)
		wantSameHighlight(t, s, d, "t", queryOf(t, "cat"))
	}
}

func TestHighlightOfSeveralTexts(t *testing.T) {
	wantMarked(t, impl.Analyzer{}, "cat dog", "a [cat]", "", "no", "[dog] [cat]", "[dog]", "[cat]\u4e2d", "no")
	wantMarked(t, impl.Analyzer{}, `"cat dog"`, "[cat]", "[dog]")
	many := make([]string, 16)
	for i := range many {
		many[i] = strings.Repeat("x ", i) + "[cat]"
	}
	wantMarked(t, impl.Analyzer{}, "cat", many...)
	// What one text was asked for tells of the next one just what it is.
	wantMarked(t, impl.Analyzer{Synonyms: []impl.Synonym{{From: "a", To: "b"}}}, "b", "[a] c [b]", "c [a]", "[b]")
}

// A field that the document does not have has no texts.
func TestHighlightOfMissingValues(t *testing.T) {
	for _, query := range []string{"cat", "*", "-cat", "plain:cat"} {
		for _, field := range []string{"body", "grams", "plain"} {
			wantHighlight(t, scene(), docWith("z"), field, queryOf(t, query), nil, impl.OK)
			wantHighlight(t, scene(), docWith("z", numbersIn("n", 1), textsIn("tag", "cat")), field, queryOf(t, query), nil, impl.OK)
		}
	}
	wantHighlight(t, scene(), docWith("z", textsIn("plain", "cat")), "body", queryOf(t, "cat"), nil, impl.OK)
	wantHighlight(t, scene(), docWith("z", textsIn("plain", "")), "plain", queryOf(t, "cat"), []string{""}, impl.OK)
	wantHighlight(t, scene(), docWith("z", textsIn("plain", "", "")), "plain", queryOf(t, "cat"), []string{"", ""}, impl.OK)
}

// Every field of the scene with every kind of node.
func TestHighlightOfAllLeaves(t *testing.T) {
	texts := []string{"cat", "Cat", "cats", "dog", "the", "red", "the cat", "cat the dog", "running", "ab", "abc", "x", "5", "\u00c9t\u00e9", "\u4e2d\u6587", "?", "*", "c?t", "r*", "..", "a b c", "pet"}
	for _, d := range sceneDocs() {
		for _, field := range []string{"", "body", "grams", "plain", "tag", "n"} {
			for _, text := range texts {
				for kind := impl.QTerm; kind <= impl.QFuzzy; kind++ {
					n := impl.Node{Kind: kind, Field: field, Text: text}
					if kind == impl.QFuzzy {
						n.Slop = 1 + len(text)%2
					}
					for _, own := range []string{"body", "grams", "plain"} {
						wantSameHighlight(t, scene(), d, own, leaf(n).query())
					}
				}
			}
		}
	}
}

// Of a text of which too many terms come nothing is asked for, as Analyze tells
// none of it.
func TestHighlightOfTextsWithTooManyTerms(t *testing.T) {
	a := impl.Analyzer{Lo: 1, Hi: 8}
	source := rand.New(rand.NewSource(38))
	for range 64 {
		to := ""
		for range 64 {
			to += string(rune('a' + source.Intn(26)))
		}
		a.Synonyms = append(a.Synonyms, impl.Synonym{From: "all", To: to})
	}
	if _, code := termsOf(a, "all"); code != impl.ErrMany {
		t.Fatalf("code %d", code)
	}
	wantMarked(t, a, `"q all l"`, "a l q none")
	wantMarked(t, a, `"q al l"`, "[a] [l] [q] none")
	wantMarked(t, a, "all*", "a l q none")
	wantMarked(t, a, "all~2", "[a] [l] q none")
}
