package tests

import (
	"math"
	"math/rand"
	"slices"
	"strings"
	"testing"

	"loop.example/g00018/impl"
)

func wantSearchText(t *testing.T, s impl.Schema, docs []impl.Doc, text string, size int, want []impl.Hit, wantCode int) {
	t.Helper()
	if list, code := impl.SearchText(s, docs, text, size); code != wantCode || !slices.Equal(list, want) {
		t.Errorf("SearchText of %s, %d: %s, code %d, want %s, code %d", short(text), size, shortHits(list), code, shortHits(want), wantCode)
	}
}

// wantSameText holds an answer against the document's words.
func wantSameText(t *testing.T, s impl.Schema, docs []impl.Doc, text string, size int) {
	t.Helper()
	want, code := searchTextOf(s, docs, text, size)
	wantSearchText(t, s, docs, text, size, want, code)
}

func TestSearchTextOfEachKind(t *testing.T) {
	m := senseOf(scene(), sceneDocs())
	for _, text := range kindTexts() {
		hits := m.hits(queryOf(t, text))
		for _, size := range []int{0, 1, 2, 5, 6, 7, 1000} {
			wantSearchText(t, scene(), sceneDocs(), text, size, hits[:min(size, len(hits))], impl.OK)
		}
		// It is what Search tells of them without keys.
		r := mustSearch(t, scene(), cutAt(sceneDocs(), 3), impl.Ask{Query: queryOf(t, text), Size: 4})
		var told []impl.Hit
		for _, f := range r.Hits {
			told = append(told, impl.Hit{Id: f.Id, Score: f.Score})
		}
		wantSearchText(t, scene(), sceneDocs(), text, 4, told, impl.OK)
	}
}

func TestSearchTextWritten(t *testing.T) {
	docs := []impl.Doc{docWith("b", numbersIn("n", 1)), docWith("a", numbersIn("n", 1, 2)), docWith("c", numbersIn("n", 2))}
	for _, c := range []struct {
		text string
		size int
		want []impl.Hit
	}{
		{"n:1", 3, []impl.Hit{hit("a", 1024), hit("b", 1024)}}, {"n:1", 1, []impl.Hit{hit("a", 1024)}}, {"n:1", 0, nil}, {" n:1  n:2 ", 3, []impl.Hit{hit("a", 2048), hit("b", 1024), hit("c", 1024)}}, {"n:2^3 *", 2, []impl.Hit{hit("a", 4096), hit("c", 4096)}}, {"-n:2", 9, []impl.Hit{hit("b", 0)}}, {"n:3", 9, nil},
	} {
		wantSearchText(t, small(), docs, c.text, c.size, c.want, impl.OK)
		wantSameText(t, small(), docs, c.text, c.size)
	}
}

func TestSearchTextOfRandomQueries(t *testing.T) {
	source := rand.New(rand.NewSource(29))
	for range 60 {
		docs := randomSceneDocs(source)
		for range 5 {
			text, _ := impl.PrintQuery(randomSceneBranch(source, 3).query())
			wantSameText(t, scene(), docs, text, source.Intn(6))
		}
	}
}

func TestSearchTextLimits(t *testing.T) {
	docs := numbered(513)
	hits, _ := impl.Meaning(small(), docs[:512], queryOf(t, "*"))
	for _, size := range []int{0, 1, 511, 512, 513, 1000} {
		wantSearchText(t, small(), docs[:512], "*", size, hits[:min(size, 512)], impl.OK)
	}
	for _, size := range []int{math.MinInt, -1000, -1, 1001, 1002, math.MaxInt} {
		wantSearchText(t, small(), docs[:512], "*", size, nil, impl.ErrRange)
		wantSearchText(t, small(), nil, "*", size, nil, impl.ErrRange)
	}
	wantSearchText(t, small(), docs, "*", 1, nil, impl.ErrMany)
	wantSearchText(t, small(), make([]impl.Doc, 1<<20), "*", 1, nil, impl.ErrMany)
	wantSearchText(t, small(), nil, "*", 5, nil, impl.OK)
	full := "x" + strings.Repeat(" ", 1999)
	wantSearchText(t, small(), docs[:3], full, 5, nil, impl.OK)
	wantSearchText(t, small(), docs[:3], full+" ", 5, nil, impl.ErrLong)
	wantSearchText(t, small(), docs[:3], strings.Repeat("x", 1<<17), 5, nil, impl.ErrLong)
}

func TestSearchTextOfWrongTexts(t *testing.T) {
	for text, code := range map[string]int{
		"": impl.ErrSyntax, "   ": impl.ErrSyntax, "(": impl.ErrSyntax, ")": impl.ErrSyntax, "cat)": impl.ErrSyntax, `"cat`: impl.ErrSyntax, "cat^": impl.ErrSyntax, "cat^0": impl.ErrSyntax, "n:[2 1]": impl.ErrSyntax, "[1 2]": impl.ErrSyntax, "cat\"x\"": impl.ErrSyntax, "Body:x": impl.ErrSyntax, "~cat": impl.ErrSyntax, "+": impl.ErrSyntax, `\`: impl.ErrSyntax,
		"\xff": impl.ErrForm, "cat \xc3": impl.ErrForm, "none:x": impl.ErrField, "cat -none:[1 2]": impl.ErrField,
		strings.Repeat("(", 8) + "x" + strings.Repeat(")", 8): impl.ErrDeep, strings.Repeat("x ", 64): impl.ErrMany, strings.Repeat("x ", 63): impl.OK, strings.Repeat("(", 7) + "x" + strings.Repeat(")", 7): impl.OK,
	} {
		for _, docs := range [][]impl.Doc{nil, sceneDocs()} {
			want, own := searchTextOf(scene(), docs, text, 3)
			if own != code {
				t.Fatalf("the second telling of %s: code %d, want %d", short(text), own, code)
			}
			wantSearchText(t, scene(), docs, text, 3, want, code)
		}
	}
}

// Faults in the document's order: the first one counts.
func TestSearchTextFaultsInOrder(t *testing.T) {
	type arguments struct {
		s    impl.Schema
		docs []impl.Doc
		text string
		size int
	}
	faults := []struct {
		code  int
		apply func(a *arguments)
	}{
		{impl.ErrMany, func(a *arguments) { a.docs = append(a.docs, numbered(512)...) }},
		{impl.ErrLong, func(a *arguments) { a.text += strings.Repeat(" ", 2000) }},
		{impl.ErrForm, func(a *arguments) { a.text += "\xff" }},
		{impl.ErrSyntax, func(a *arguments) { a.text += "(" }},
		{impl.ErrDeep, func(a *arguments) { a.text += " ((((((((x))))))))" }},
		{impl.ErrMany, func(a *arguments) { a.text += strings.Repeat(" x", 64) }},
		{impl.ErrBad, func(a *arguments) { a.s.Fields[0].Name = "Body" }},
		{impl.ErrBad, func(a *arguments) { a.docs = append(a.docs, docWith("a b")) }},
		{impl.ErrExists, func(a *arguments) { a.docs = append(a.docs, a.docs[0]) }},
		{impl.ErrField, func(a *arguments) { a.text = "none:x " + a.text }},
		{impl.ErrRange, func(a *arguments) { a.size = -1 }},
	}
	for i, first := range faults {
		for j := i; j < len(faults); j++ {
			a := arguments{scene(), sceneDocs(), "cat dog ", 3}
			// The last one is put in first, so that what it writes stands as well.
			for k := len(faults) - 1; k >= 0; k-- {
				if k == i || k == j {
					faults[k].apply(&a)
				}
			}
			if _, own := searchTextOf(a.s, a.docs, a.text, a.size); own != first.code {
				t.Fatalf("the second telling of faults %d and %d: code %d, want %d", i, j, own, first.code)
			}
			wantSearchText(t, a.s, a.docs, a.text, a.size, nil, first.code)
		}
	}
	// A text that is far too long comes behind too many documents, as the chapter
	// says it, since its limit is that of a query.
	wantSearchText(t, scene(), make([]impl.Doc, 513), strings.Repeat("x", 1<<17), -1, nil, impl.ErrMany)
}
