package tests

import (
	"math/rand"
	"slices"
	"strings"
	"testing"

	"loop.example/g00018/impl"
)

func TestTermsWritten(t *testing.T) {
	d := book()
	for _, c := range []struct {
		field string
		want  []impl.Token
		code  int
	}{
		{"body", []impl.Token{
			{Text: "cat", Pos: 1, From: 4, To: 8}, {Text: "feline", Pos: 1, From: 4, To: 8}, {Text: "run", Pos: 2, From: 10, To: 17},
			{Text: "of", Pos: 203, From: 0, To: 2}, {Text: "boat", Pos: 205, From: 7, To: 12},
		}, impl.OK},
		{"title", []impl.Token{{Text: "The", Pos: 0, From: 0, To: 3}, {Text: "Cats", Pos: 1, From: 4, To: 8}}, impl.OK},
		{"tag", []impl.Token{{Text: "red", Pos: 0, To: 3}, {Text: "The end", Pos: 1, To: 7}, {Text: "red", Pos: 2, To: 3}}, impl.OK},
		{"topic", []impl.Token{{Text: "\u4e2d\u6587", To: 6}}, impl.OK},
		{"pages", nil, impl.ErrKind}, {"year", nil, impl.ErrKind},
		{"author", nil, impl.ErrField}, {"", nil, impl.ErrField}, {"Body", nil, impl.ErrField}, {"bod", nil, impl.ErrField}, {"body ", nil, impl.ErrField}, {"\xff", nil, impl.ErrField},
	} {
		wantDocTerms(t, shelf(), d, c.field, c.want, c.code)
		wantSameTerms(t, shelf(), d, c.field)
	}
}

func TestTermsOfMissingFields(t *testing.T) {
	for _, field := range []string{"body", "tag", "title", "topic"} {
		wantDocTerms(t, shelf(), docWith("a"), field, nil, impl.OK)
		for _, other := range book().Values {
			if other.Field != field {
				wantDocTerms(t, shelf(), docWith("a", other), field, nil, impl.OK)
			}
		}
	}
	wantDocTerms(t, shelf(), docWith("a"), "year", nil, impl.ErrKind)
	wantDocTerms(t, shelf(), docWith("a"), "none", nil, impl.ErrField)
}

// posOf tells the places of the terms of a field of texts.
func posOf(a impl.Analyzer, texts ...string) []int {
	list, _ := impl.Terms(schemaOf(textField("f", a)), docWith("i", textsIn("f", texts...)), "f")
	var places []int
	for _, term := range list {
		places = append(places, term.Pos)
	}
	return places
}

func TestTermsBases(t *testing.T) {
	stops := impl.Analyzer{Stops: []string{"the", "of"}}
	grams := impl.Analyzer{Lo: 2, Hi: 2}
	twice := impl.Analyzer{Synonyms: []impl.Synonym{{From: "a", To: "x"}, {From: "a", To: "y"}}}
	for _, c := range []struct {
		a     impl.Analyzer
		texts []string
		want  []int
	}{
		{impl.Analyzer{}, []string{"a b c", "d", "e f"}, []int{0, 1, 2, 103, 204, 205}},
		{impl.Analyzer{}, []string{"", "a"}, []int{100}},
		{impl.Analyzer{}, []string{"", "", "a", "", "a"}, []int{200, 401}},
		{impl.Analyzer{}, []string{" .,! ", "a", "-", "b"}, []int{100, 301}},
		{impl.Analyzer{}, []string{"a", "a", "a"}, []int{0, 101, 202}},
		{impl.Analyzer{}, []string{"it's x_1", "\u4e2d\u6587", "'a'"}, []int{0, 1, 102, 103, 204}},
		{stops, []string{"the end", "of the sea", "the of", "x"}, []int{1, 104, 307}},
		{stops, []string{"the", "the", "of", "a"}, []int{303}},
		{stops, []string{"end of", "x"}, []int{0, 102}},
		{grams, []string{"a abc", "ab", "b", "bc"}, []int{1, 1, 102, 304}},
		{twice, []string{"a b", "a", "c"}, []int{0, 0, 0, 1, 102, 102, 102, 203}},
		{impl.Analyzer{}, []string{strings.Repeat("a", 65) + " b", strings.Repeat("a", 65), "c"}, []int{1, 203}},
		{impl.Analyzer{}, append(slices.Repeat([]string{""}, 15), "a b"), []int{1500, 1501}},
		{impl.Analyzer{}, append(slices.Repeat([]string{"."}, 15), "\U0001f600 b"), []int{1500}},
	} {
		if got := posOf(c.a, c.texts...); !slices.Equal(got, c.want) {
			t.Errorf("places of the terms of %q by %s: %v, want %v", c.texts, shortAnalyzer(c.a), got, c.want)
		}
		s := schemaOf(textField("f", c.a), textField("g", impl.Analyzer{}))
		wantSameTerms(t, s, docWith("i", textsIn("f", c.texts...), textsIn("g", "x", "y")), "f")
		wantSameTerms(t, s, docWith("i", textsIn("f", c.texts...), textsIn("g", "x", "y")), "g")
	}
}

// A text of many words moves the base of the next by all of them.
func TestTermsBaseOfManyWords(t *testing.T) {
	for _, words := range []int{99, 100, 101, 1000, 1990} {
		for _, a := range []impl.Analyzer{{}, {Stops: []string{"a"}}, {Lo: 2, Hi: 3}} {
			got := posOf(a, strings.Repeat("a ", words), "bbbb", "cc")
			if first := slices.Index(got, 100+words); first < 0 || got[len(got)-1] != 201+words {
				t.Errorf("%d words ahead, by %s: %s", words, shortAnalyzer(a), shortList(got))
			}
		}
	}
}

func TestTermsOfWords(t *testing.T) {
	words := []string{"red", "Red", "RED", " red ", "two words", "the", "\u00c9t\u00e9", "red", "\x00", "*", strings.Repeat("w", impl.MaxTerm), strings.Repeat("\u4e2d", 21), "it's", "1", ".", "cats"}
	var want []impl.Token
	for i, word := range words {
		want = append(want, impl.Token{Text: word, Pos: i, From: 0, To: len(word)})
	}
	wantDocTerms(t, shelf(), docWith("i", textsIn("body", "x", "y"), textsIn("tag", words...), textsIn("topic", "z")), "tag", want, impl.OK)
}

func TestTermsOfNothing(t *testing.T) {
	for _, texts := range [][]string{{""}, {"", ""}, {" ", ".", "the"}, {"The the THE"}} {
		wantDocTerms(t, shelf(), docWith("i", textsIn("body", texts...)), "body", nil, impl.OK)
	}
}

// Together the texts of a field may have more terms than one text can.
func TestTermsMoreThanOneTextHas(t *testing.T) {
	s := schemaOf(textField("f", manySynonyms()))
	d := docWith("i", textsIn("f", slices.Repeat([]string{strings.Repeat("a ", 124) + "b"}, impl.MaxValues)...))
	wantSameTerms(t, s, d, "f")
	if list, code := impl.Terms(s, d, "f"); code != impl.OK || len(list) != impl.MaxValues*(124*65+1) {
		t.Errorf("%d terms, code %d", len(list), code)
	}
}

// The codes stand in the order of the chapter, a text that is too long ahead of all.
func TestTermsFaultsInOrder(t *testing.T) {
	long := strings.Repeat("a", impl.MaxText+1)
	broken := shelf()
	broken.Fields[0].Kind = 0
	for _, c := range []struct {
		s     impl.Schema
		d     impl.Doc
		field string
		code  int
	}{
		{shelf(), book(), long, impl.ErrLong},
		{shelf(), book(), long[1:], impl.ErrField},
		{shelf(), impl.Doc{}, long, impl.ErrLong},
		{broken, book(), long, impl.ErrLong},
		{impl.Schema{}, impl.Doc{}, long, impl.ErrLong},
		{shelf(), impl.Doc{}, long[1:], impl.ErrBad},
		{shelf(), impl.Doc{}, "none", impl.ErrBad},
		{shelf(), impl.Doc{}, "year", impl.ErrBad},
		{shelf(), impl.Doc{}, "body", impl.ErrBad},
		{shelf(), docWith("i", textsIn("none", "x")), "none", impl.ErrBad},
		{shelf(), docWith("i", textsIn("year", "x")), "year", impl.ErrBad},
		{broken, docWith("i"), "body", impl.ErrBad},
		{broken, docWith("i"), "year", impl.ErrBad},
		{broken, docWith("i"), "none", impl.ErrBad},
		{impl.Schema{}, docWith("i"), "none", impl.ErrBad},
		{impl.Schema{}, docWith("i"), "", impl.ErrBad},
		{shelf(), docWith("i"), "none", impl.ErrField},
		{shelf(), docWith("i"), "year", impl.ErrKind},
	} {
		wantDocTerms(t, c.s, c.d, c.field, nil, c.code)
		wantSameTerms(t, c.s, c.d, c.field)
	}
	// A fault in one field counts when another is asked for.
	wantDocTerms(t, shelf(), docWith("i", textsIn("tag", "x"), textsIn("topic", "")), "tag", nil, impl.ErrBad)
	wantDocTerms(t, shelf(), docWith("i", textsIn("title", "\xff")), "body", nil, impl.ErrBad)
}

// randomDoc tells a document of a schema that is nearly always valid.
func randomDoc(source *rand.Rand, s impl.Schema) impl.Doc {
	d := impl.Doc{Id: "d" + string(rune('a'+source.Intn(26)))}
	for _, field := range s.Fields {
		v := impl.Value{Field: field.Name}
		for range source.Intn(4) {
			switch field.Kind {
			case impl.KNumber:
				v.Numbers = append(v.Numbers, source.Intn(2*greatestNumber+1)-greatestNumber)
			case impl.KWord:
				v.Texts = append(v.Texts, wordStock[source.Intn(len(wordStock))])
			default:
				v.Texts = append(v.Texts, randomText(source))
			}
		}
		if len(v.Texts)+len(v.Numbers) > 0 {
			d.Values = append(d.Values, v)
		}
	}
	return d
}

func TestTermsOfRandomDocs(t *testing.T) {
	source := rand.New(rand.NewSource(6))
	valid := 0
	for range 300 {
		s := schemaOf(textField("body", randomAnalyzer(source)), numberField("n"), wordField("tag"), textField("title", randomAnalyzer(source)))
		d := randomDoc(source, s)
		if rightDoc(s, d) {
			valid++
		}
		if impl.DocOK(s, d) != rightDoc(s, d) {
			t.Errorf("DocOK of %s", shortDoc(d))
		}
		for _, field := range []string{"body", "n", "tag", "title", "x"} {
			wantSameTerms(t, s, d, field)
		}
		wantDocBack(t, d)
	}
	if valid < 100 {
		t.Errorf("only %d documents were valid", valid)
	}
}
