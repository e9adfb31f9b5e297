package tests

import (
	"fmt"
	"math/rand"
	"slices"
	"strings"
	"testing"

	"loop.example/g00018/impl"
)

// marksOf tells of each byte of a text without brackets whether it is between
// marks, and whether the marks are right: each opened once, closed once, around
// something, and none right behind another.
func marksOf(marked string) ([]bool, bool) {
	var in []bool
	open, right := false, !strings.Contains(marked, "[]") && !strings.Contains(marked, "][")
	for i := range len(marked) {
		switch marked[i] {
		case '[':
			right = right && !open
			open = true
		case ']':
			right = right && open
			open = false
		default:
			in = append(in, open)
		}
	}
	return in, right && !open
}

// simpleAsks tells queries on one field of which each asks for one word, or what a
// word must be like: a word is marked if one of them finds it alone.
func simpleAsks(b branch, field string) []impl.Query {
	if b.Role == mustNot {
		return nil
	}
	var list []impl.Query
	for _, kid := range b.below {
		list = append(list, simpleAsks(kid, field)...)
	}
	if b.Field != "" && b.Field != field {
		return list
	}
	n := b.Node
	n.Role, n.Field = should, field
	switch n.Kind {
	case impl.QTerm, impl.QPhrase:
		words, _ := impl.Break(n.Text)
		for _, word := range words {
			list = append(list, leaf(impl.Node{Kind: impl.QTerm, Field: field, Text: word.Text}).query())
		}
	case impl.QPrefix, impl.QWild, impl.QFuzzy:
		list = append(list, leaf(n).query())
	}
	return list
}

// Without marks the text is as it was, and just those words are marked that the
// query asks for.
func TestHighlightChangesNothingButMarks(t *testing.T) {
	source := rand.New(rand.NewSource(45))
	counts := map[bool]int{}
	for range 250 {
		d := randomSceneDoc(source, "d")
		b := group(randomSceneBranch(source, 3), randomSceneBranch(source, 3), randomSceneBranch(source, 3), randomSceneBranch(source, 2).with(mustNot))
		for _, field := range []string{"body", "grams", "plain"} {
			list, code := impl.Highlight(scene(), d, field, b.query())
			texts := textsHad(d, field)
			if code != impl.OK || len(list) != len(texts) {
				t.Fatalf("%s of %s: %s, code %d", textOf(b.query()), shortDoc(d), shortTexts(list), code)
			}
			asks := simpleAsks(b, field)
			for i, marked := range list {
				in, right := marksOf(marked)
				if !right || withoutMarks(marked) != texts[i] {
					t.Errorf("%s of %s: %s", textOf(b.query()), short(texts[i]), short(marked))
				}
				words, _ := impl.Break(texts[i])
				for _, word := range words {
					alone := []impl.Doc{docWith("w", textsIn(field, word.Text))}
					asked := slices.ContainsFunc(asks, func(q impl.Query) bool {
						hits, _ := impl.Meaning(scene(), alone, q)
						return len(hits) > 0
					})
					counts[asked]++
					if within := in[word.From:word.To]; slices.Contains(within, !asked) {
						t.Errorf("%s in %s of %s is asked for: %v", short(word.Text), short(marked), textOf(b.query()), asked)
					}
				}
			}
		}
	}
	if counts[true] < 300 || counts[false] < 300 {
		t.Errorf("of all words these are asked for, or not: %v", counts)
	}
}

// What stands between words is marked only where it is within one: no mark stands
// where no word begins or ends.
func TestHighlightMarksWholeWords(t *testing.T) {
	source := rand.New(rand.NewSource(46))
	pieces := []string{"cat", "dog", "Cat", "\u4e2d", "\u6587", " ", "'", "_", ".", "[", "]", "\u00e9t\u00e9", "\U0001f600", "9", "a"}
	queries := []string{"cat", "cat dog", "\u4e2d", "\"\u6587\u4e2d\" a", "ca*", `~"?"`, "cot~2", "-cat dog", "*", `~"*" -cat`, "\u00e9t\u00e9 9", "(cat -(dog)) +\u4e2d"}
	for range 1500 {
		text := ""
		for range source.Intn(12) {
			text += pieces[source.Intn(len(pieces))]
		}
		d := docWith("d", textsIn("t", text, "cat"))
		q := queryOf(t, queries[source.Intn(len(queries))])
		wantSameHighlight(t, small(), d, "t", q)
	}
}

func TestHighlightOfRandomAnalyzers(t *testing.T) {
	source := rand.New(rand.NewSource(47))
	for range 150 {
		s := schemaOf(textField("a", randomAnalyzer(source)), textField("b", randomAnalyzer(source)), wordField("w"))
		d := randomDoc(source, s)
		if !rightDoc(s, d) {
			continue
		}
		for range 10 {
			n := impl.Node{Kind: 1 + source.Intn(5), Field: []string{"", "a", "b", "w"}[source.Intn(4)], Text: wordStock[source.Intn(len(wordStock))]}
			switch n.Kind {
			case impl.QPhrase:
				n.Text = randomText(source)
			case impl.QPrefix:
				n.Text = string([]rune(n.Text)[:1])
			case impl.QFuzzy:
				n.Slop = 1 + source.Intn(2)
			}
			if q := group(leaf(n), leaf(impl.Node{Kind: impl.QTerm, Text: "cat"}).with(source.Intn(3))).query(); rightQuery(q) {
				wantSameHighlight(t, s, d, "a", q)
				wantSameHighlight(t, s, d, "b", q)
			}
		}
	}
}

// The first line of Explain is what Meaning tells, of every document.
func TestExplainTellsWhatMeaningTells(t *testing.T) {
	source := rand.New(rand.NewSource(48))
	counts := map[bool]int{}
	for range 300 {
		docs := randomSceneDocs(source)
		q := randomSceneBranch(source, 4).query()
		hits, code := impl.Meaning(scene(), docs, q)
		if code != impl.OK {
			t.Fatalf("code %d", code)
		}
		for _, d := range docs {
			lines, code := impl.Explain(scene(), docs, q, d.Id)
			want := fmt.Sprintf("=%d no 0", q.Nodes[0].Kind)
			at := slices.IndexFunc(hits, func(h impl.Hit) bool { return h.Id == d.Id })
			if at >= 0 {
				want = fmt.Sprintf("=%d yes %d", q.Nodes[0].Kind, hits[at].Score)
			}
			if code != impl.OK || len(lines) != len(q.Nodes) || lines[0] != want {
				t.Errorf("%s on %s: %s, code %d, want %s", textOf(q), d.Id, shortTexts(lines), code, want)
			}
			counts[at >= 0]++
		}
	}
	if counts[true] < 300 || counts[false] < 300 {
		t.Errorf("of all documents these match, or not: %v", counts)
	}
}

// Every node, made the root of a query of its own, tells the line that it has.
func TestExplainOfNodesAlone(t *testing.T) {
	source := rand.New(rand.NewSource(49))
	for range 200 {
		docs := randomSceneDocs(source)
		b := group(randomSceneBranch(source, 3).with(source.Intn(3)), randomSceneBranch(source, 3).with(source.Intn(3)))
		for _, d := range docs {
			lines, _ := impl.Explain(scene(), docs, b.query(), d.Id)
			at := 1
			for _, kid := range b.below {
				alone, _ := impl.Explain(scene(), docs, kid.with(should).query(), d.Id)
				for i, line := range alone {
					want := "  " + line
					if i == 0 {
						want = "  " + []string{"=", "+", "-"}[kid.Role] + line[1:]
					}
					if lines[at] != want {
						t.Errorf("%s on %s: line %d of %s, want %q", textOf(b.query()), d.Id, at, shortTexts(lines), want)
					}
					at++
				}
			}
		}
	}
}

// Suggestions are the nearest words, by what Edits says.
func TestSuggestTellsTheNearest(t *testing.T) {
	source := rand.New(rand.NewSource(50))
	full := 0
	for range 150 {
		text := changedText(source, "", "abcdef\u00e9\u4e2d", 3+source.Intn(60))
		var words []string
		for range source.Intn(120) {
			words = append(words, changedText(source, text, "abcdef\u00e9\u4e2d", source.Intn(6)))
		}
		list, code := impl.Suggest(words, text, 20)
		if code != impl.OK {
			t.Fatalf("code %d", code)
		}
		wantNearest(t, words, text, list)
		full += btoi(len(list) == 20)
		// The first ones of all are those that are told when fewer are asked for,
		// whatever the order of the words.
		source.Shuffle(len(words), func(i, j int) { words[i], words[j] = words[j], words[i] })
		most := source.Intn(21)
		wantSuggest(t, words, text, most, list[:min(most, len(list))], impl.OK)
	}
	if full < 30 {
		t.Errorf("only %d times as many as can be", full)
	}
}

// A query's Id is told just if the query finds the document: alone, among others,
// and by Search.
func TestPercolateIsTheInverseOfSearching(t *testing.T) {
	source := rand.New(rand.NewSource(51))
	told := 0
	for range 80 {
		docs := randomSceneDocs(source)
		list := randomStored(source, 12)
		found := map[string][]string{} // of each document the queries that find it
		for _, one := range list {
			hits, _ := impl.Meaning(scene(), docs, one.Query)
			r := mustSearch(t, scene(), randomCut(source, docs), impl.Ask{Query: one.Query, Size: 100})
			if len(hits) != r.Total {
				t.Errorf("%s: %s and %s", textOf(one.Query), shortHits(hits), shortResult(r))
			}
			for _, f := range r.Hits {
				found[f.Id] = append(found[f.Id], one.Id)
			}
		}
		for _, d := range docs {
			want := found[d.Id]
			slices.Sort(want)
			wantPercolate(t, scene(), list, d, want, impl.OK)
			told += len(want)
		}
	}
	if told < 300 {
		t.Errorf("only %d are told", told)
	}
}
