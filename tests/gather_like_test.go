package tests

import (
	"fmt"
	"math"
	"math/rand"
	"slices"
	"strings"
	"testing"

	"loop.example/g00018/impl"
)

// texts tells documents of small, named a, b, .., with one text each.
func texts(list ...string) []impl.Doc {
	var docs []impl.Doc
	for i, text := range list {
		docs = append(docs, docWith(string(rune('a'+i)), textsIn("t", text)))
	}
	return docs
}

func TestMoreLikeInWritten(t *testing.T) {
	docs := texts("cat dog emu", "cat dog", "cat fox fox fox", "gnu", "z y x w")
	docs = append(docs, docWith("n", numbersIn("n", 5)), docWith("o", textsIn("t", "")), docWith("p", textsIn("t", "dog", "cat cat", "kea")))
	for _, row := range []struct {
		id   string
		most int
		want string
	}{
		// The rarest first; how often a term stands in the document does not matter.
		{"a", 3, "emu dog cat"}, {"a", 2, "emu dog"}, {"a", 1, "emu"}, {"a", 4, "emu dog cat"}, {"a", 20, "emu dog cat"}, {"b", 20, "dog cat"}, {"b", 1, "dog"}, {"c", 20, "fox cat"}, {"p", 20, "kea dog cat"},
		// Documents that share nothing, with terms of equal Weight: the least first.
		{"d", 20, "gnu"}, {"e", 20, "w x y z"}, {"e", 2, "w x"}, {"e", 1, "w"}, {"e", 4, "w x y z"},
		// No term at all.
		{"n", 5, ""}, {"o", 5, ""},
	} {
		wantTermsLike(t, small(), docs, row.id, "t", row.most, row.want)
	}
	q, code := impl.MoreLike(small(), docs, "a", "t", 2)
	if text, _ := impl.PrintQuery(q); code != impl.OK || text != "(t:emu t:dog)" {
		t.Errorf("%s, code %d", text, code)
	}
	// One term is in brackets too.
	q, _ = impl.MoreLike(small(), docs, "a", "t", 1)
	if text, _ := impl.PrintQuery(q); text != "(t:emu)" {
		t.Errorf("%s", text)
	}
}

// All documents count in n and with, also those without the field.
func TestMoreLikeWeights(t *testing.T) {
	for n := 1; n <= 6; n++ {
		docs := numbered(n - 1)
		docs = append(docs, docWith("x", textsIn("t", "b a c")))
		for i := range n - 1 {
			docs[i].Values = []impl.Value{textsIn("t", "b b b"), textsIn("w", "a")}
		}
		want := "a c b"
		if n == 1 {
			want = "a b c"
		}
		wantTermsLike(t, small(), docs, "x", "t", 3, want)
	}
	// A term in every one of many documents has no Weight, but is told.
	docs := numbered(512)
	for i := range docs {
		docs[i].Values = []impl.Value{textsIn("t", fmt.Sprintf("all t%03d half%d", i, i%2))}
	}
	wantTermsLike(t, small(), docs, "d007", "t", 20, "t007 half1 all")
	if impl.Weight(512, 512) != 0 {
		t.Error("all has a Weight")
	}
	wantTermsLike(t, small(), docs, "d511", "t", 2, "t511 half1")
}

func TestMoreLikeNumberOfTerms(t *testing.T) {
	var words []string
	for i := range 40 {
		words = append(words, fmt.Sprintf("w%02d", 39-i))
	}
	docs := texts(strings.Join(words, " "), strings.Join(words[:20], " "))
	// w00 to w19 are rarer than w20 to w39.
	for most := 1; most <= 20; most++ {
		var want []string
		for i := range most {
			want = append(want, fmt.Sprintf("w%02d", i))
		}
		wantTermsLike(t, small(), docs, "a", "t", most, strings.Join(want, " "))
	}
	for _, most := range []int{math.MinInt, -1, 0, 21, 22, math.MaxInt} {
		wantMoreLike(t, small(), docs, "a", "t", most, impl.Query{}, impl.ErrRange)
	}
	for count := 1; count <= 21; count++ {
		docs := texts(strings.Join(words[:count], " "))
		q := wantSameMoreLike(t, small(), docs, "a", "t", 20)
		if len(q.Nodes) != 1+min(20, count) {
			t.Errorf("%d terms: %s", count, textOf(q))
		}
	}
}

// Only terms of which Analyze tells just themselves.
func TestMoreLikeTermsThatLast(t *testing.T) {
	for _, row := range []struct {
		a          impl.Analyzer
		text, want string
	}{
		{impl.Analyzer{}, "Cat cats it's x_1 12", "12 Cat cats it's x_1"},
		{impl.Analyzer{Fold: true}, "Cat \u00c9t\u00e9", "cat ete"},
		// Stems that are stems, and one of which another would be cut off.
		{impl.Analyzer{Stem: true}, "cats running exceeding", "cat run"},
		{impl.Analyzer{Stem: true}, "exceeding", ""},
		{impl.Analyzer{Stem: true}, "exceeded Exceeding", "Exceeding"},
		// Sounds: only those that end in noughts sound as themselves.
		{impl.Analyzer{Phone: true}, "cat he robert 12", "12 h000"},
		{impl.Analyzer{Phone: true}, "robert", ""},
		// More than itself, something else with it.
		{impl.Analyzer{Synonyms: []impl.Synonym{{From: "cat", To: "feline"}}}, "cat dog", "dog feline"},
		{impl.Analyzer{Synonyms: []impl.Synonym{{From: "cat", To: "feline"}, {From: "feline", To: "cat"}}}, "cat dog", "dog"},
		{impl.Analyzer{Synonyms: []impl.Synonym{{From: "cat", To: "feline"}, {From: "feline", To: "cat"}}}, "cat", ""},
		// Something else: a synonym that has capitals, or is two words, or none.
		{impl.Analyzer{Fold: true, Synonyms: []impl.Synonym{{From: "cat", To: "Feline"}}}, "cat dog", "dog"},
		{impl.Analyzer{Synonyms: []impl.Synonym{{From: "cat", To: "two words"}}}, "cat dog", "dog"},
		{impl.Analyzer{Synonyms: []impl.Synonym{{From: "cat", To: "-"}, {From: "dog", To: "a-"}}}, "cat dog emu", "emu"},
		// Nothing: a stop word that came of another word.
		{impl.Analyzer{Stops: []string{"ran"}, Synonyms: []impl.Synonym{{From: "run", To: "ran"}}}, "run walk ran", "walk"},
		{impl.Analyzer{Stem: true, Stops: []string{"cat"}}, "cats dogs", "dog"},
		{impl.Analyzer{Stem: true, Stops: []string{"cat"}}, "cats cat", ""},
		// Grams: those of the least size alone have no others in them.
		{impl.Analyzer{Lo: 2, Hi: 3}, "abc", "ab bc"},
		{impl.Analyzer{Lo: 3, Hi: 3}, "abcd xy", "abc bcd"},
		{impl.Analyzer{Lo: 1, Hi: 2}, "ab", "a b"},
		{impl.Analyzer{Lo: 2, Hi: 2}, "a'b", ""},
		{impl.Analyzer{Lo: 8, Hi: 8}, "short", ""},
	} {
		s := schemaOf(textField("t", row.a))
		docs := []impl.Doc{docWith("a", textsIn("t", row.text))}
		wantTermsLike(t, s, docs, "a", "t", 20, row.want)
		for most := 1; most <= 4; most++ {
			wantSameMoreLike(t, s, append(docs, docWith("b"), docWith("c", textsIn("t", row.text))), "a", "t", most)
		}
	}
}

// A term that is left out makes room for the next.
func TestMoreLikePassesOver(t *testing.T) {
	s := schemaOf(textField("t", impl.Analyzer{Synonyms: []impl.Synonym{{From: "aa", To: "x"}, {From: "ab", To: "y"}}}))
	docs := []impl.Doc{docWith("a", textsIn("t", "aa ab ac ad")), docWith("b", textsIn("t", "aa ac"))}
	wantTermsLike(t, s, docs, "a", "t", 1, "ad")
	wantTermsLike(t, s, docs, "a", "t", 2, "ad y")
	wantTermsLike(t, s, docs, "a", "t", 3, "ad y ac")
	wantTermsLike(t, s, docs, "a", "t", 9, "ad y ac x")
	// Analyze tells this term twice, which is not just itself: a node that asks for it
	// asks for two places.
	twice := schemaOf(textField("t", impl.Analyzer{Lo: 3, Hi: 3, Synonyms: []impl.Synonym{{From: "1", To: "1 1"}}}))
	wantTermsLike(t, twice, []impl.Doc{docWith("a", textsIn("t", "1"))}, "a", "t", 9, "")
}

// Each field by itself; other fields' terms do not count.
func TestMoreLikeOfEachField(t *testing.T) {
	docs := sceneDocs()
	for _, d := range docs {
		for _, field := range []string{"body", "grams", "plain", "tag", "n", "year", "none", ""} {
			for _, most := range []int{0, 1, 3, 20, 21} {
				wantSameMoreLike(t, scene(), docs, d.Id, field, most)
			}
		}
	}
	wantTermsLike(t, scene(), docs, "c", "body", 20, "and a feline pet")
	for _, field := range []string{"tag", "n", "year"} {
		wantMoreLike(t, scene(), docs, "d1", field, 5, impl.Query{}, impl.ErrKind)
	}
	for _, field := range []string{"", "none", "Body", "bod", "bodyy", "\xff", strings.Repeat("x", 65536)} {
		wantMoreLike(t, scene(), docs, "d1", field, 5, impl.Query{}, impl.ErrField)
	}
}

func TestMoreLikeOfMissingIds(t *testing.T) {
	docs := sceneDocs()
	for _, id := range []string{"", "none", "d", "d11", "D1", "\xff", "a b", strings.Repeat("x", 65536)} {
		wantMoreLike(t, scene(), docs, id, "body", 5, impl.Query{}, impl.ErrMissing)
	}
	wantMoreLike(t, scene(), nil, "d1", "body", 5, impl.Query{}, impl.ErrMissing)
}

func TestMoreLikeFaultsInOrder(t *testing.T) {
	most := 5
	set := func(v int) func(*extrasAsk) { return func(*extrasAsk) { most = v } }
	wantFaultsInOrder(t, []extrasFault{
		{impl.ErrLong, func(a *extrasAsk) { a.id = strings.Repeat("x", 65537) }},
		{impl.ErrLong, func(a *extrasAsk) { a.field = strings.Repeat("x", 65537) }},
		{impl.ErrMany, func(a *extrasAsk) { a.docs = append(a.docs, numbered(512)...) }},
		{impl.ErrBad, wrongSchema},
		{impl.ErrBad, func(a *extrasAsk) { a.docs = append(a.docs, docWith("bad", textsIn("n", "1"))) }},
		{impl.ErrExists, func(a *extrasAsk) { a.docs = append(a.docs, docWith("c")) }},
		{impl.ErrMissing, func(a *extrasAsk) { a.id = "none" }},
		{impl.ErrField, func(a *extrasAsk) { a.field = "none" }},
		{impl.ErrKind, func(a *extrasAsk) { a.field = "tag" }},
		{impl.ErrRange, set(0)},
		{impl.ErrRange, set(21)},
		{impl.ErrMissing, func(a *extrasAsk) { a.docs[2].Values = nil }},
	}, func(a *extrasAsk, code int) {
		t.Helper()
		if _, own := likeOf(a.s, a.docs, a.id, a.field, most); own != code {
			t.Fatalf("the second telling: code %d, want %d", own, code)
		}
		wantSameMoreLike(t, a.s, a.docs, a.id, a.field, most)
		most = 5
	})
}

func TestMoreLikeOfWrongArguments(t *testing.T) {
	for _, d := range wrongDocs() {
		for at := range 3 {
			docs := slices.Insert(sceneDocs()[:2:2], at, d)
			wantMoreLike(t, scene(), docs, "d1", "body", 5, impl.Query{}, impl.ErrBad)
			wantMoreLike(t, scene(), docs, d.Id, "none", 0, impl.Query{}, impl.ErrBad)
		}
	}
	for _, s := range []impl.Schema{{}, schemaOf(wordField("")), schemaOf(wordField("b"), wordField("a")), schemaOf(impl.FieldDef{Name: "a"}), schemaOf(textField("a", impl.Analyzer{Lo: 1})), manyFields(17)} {
		wantMoreLike(t, s, nil, "d", "a", 5, impl.Query{}, impl.ErrBad)
		wantMoreLike(t, s, []impl.Doc{docWith("d")}, "d", "a", 5, impl.Query{}, impl.ErrBad)
	}
	for i := range 4 {
		for j := range i {
			docs := numbered(4)
			docs[i].Id = docs[j].Id
			for _, id := range []string{"d000", "d003", "none"} {
				wantMoreLike(t, small(), docs, id, "t", 5, impl.Query{}, impl.ErrExists)
			}
		}
	}
	// As many documents as may be, and one more.
	docs := numbered(513)
	docs[0].Values = []impl.Value{textsIn("t", "cat")}
	wantTermsLike(t, small(), docs[:512], "d000", "t", 5, "cat")
	wantMoreLike(t, small(), docs, "d000", "t", 5, impl.Query{}, impl.ErrMany)
	wantMoreLike(t, small(), make([]impl.Doc, 1<<20), "d000", "t", 5, impl.Query{}, impl.ErrMany)
}

func TestMoreLikeOfRandomDocs(t *testing.T) {
	source := rand.New(rand.NewSource(126))
	told := 0
	for range 60 {
		docs := randomSceneDocs(source)
		for _, d := range docs {
			for _, field := range []string{"body", "grams", "plain"} {
				q := wantSameMoreLike(t, scene(), docs, d.Id, field, 1+source.Intn(20))
				told += len(q.Nodes)
			}
		}
		source.Shuffle(len(docs), func(i, j int) { docs[i], docs[j] = docs[j], docs[i] })
		for _, d := range docs {
			wantSameMoreLike(t, scene(), docs, d.Id, "plain", 4)
		}
	}
	if told < 1000 {
		t.Errorf("only %d nodes are told", told)
	}
}

func TestMoreLikeOfRandomAnalyzers(t *testing.T) {
	source := rand.New(rand.NewSource(127))
	for range 40 {
		s := schemaOf(textField("a", randomAnalyzer(source)), textField("b", randomAnalyzer(source)), wordField("w"))
		var docs []impl.Doc
		for i := range 5 {
			d := randomDoc(source, s)
			d.Id = fmt.Sprint(i)
			if rightDoc(s, d) {
				docs = append(docs, d)
			}
		}
		for _, d := range docs {
			wantSameMoreLike(t, s, docs, d.Id, "a", 1+source.Intn(20))
			wantSameMoreLike(t, s, docs, d.Id, "b", 1+source.Intn(20))
		}
	}
}

// P10 of MoreLike: the document itself is found by the query, each of its kids finds
// it too, and what Meaning tells are the documents that have one of the terms.
func TestMoreLikeFindsTheDoc(t *testing.T) {
	source := rand.New(rand.NewSource(128))
	told := 0
	for range 100 {
		docs := randomSceneDocs(source)
		for _, d := range docs {
			field := []string{"body", "grams", "plain"}[source.Intn(3)]
			q, code := impl.MoreLike(scene(), docs, d.Id, field, 1+source.Intn(20))
			if code == impl.ErrMissing {
				continue
			}
			told++
			wantMatches(t, scene(), d, q, true, impl.OK)
			var having []string
			for _, other := range docs {
				list, _ := impl.Terms(scene(), other, field)
				if slices.ContainsFunc(list, func(term impl.Token) bool {
					return slices.ContainsFunc(q.Nodes[1:], func(n impl.Node) bool { return n.Text == term.Text })
				}) {
					having = append(having, other.Id)
				}
			}
			slices.Sort(having)
			wantIds(t, scene(), docs, q, strings.Join(having, " "))
			for _, n := range q.Nodes[1:] {
				wantMatches(t, scene(), d, impl.Query{Nodes: []impl.Node{n}}, true, impl.OK)
			}
		}
	}
	if told < 100 {
		t.Errorf("only %d queries are told", told)
	}
}
