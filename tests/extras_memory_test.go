package tests

import (
	"reflect"
	"slices"
	"strings"
	"testing"

	"loop.example/g00018/impl"
)

// ownTexts tells a copy of v of which every text has memory of its own.
func ownTexts[T any](v T) T {
	c := reflect.New(reflect.TypeOf(v)).Elem()
	c.Set(reflect.ValueOf(copyOf(v)))
	cloneTexts(c)
	return c.Interface().(T)
}

func cloneTexts(v reflect.Value) {
	switch v.Kind() {
	case reflect.String:
		v.SetString(strings.Clone(v.String()))
	case reflect.Slice:
		for i := range v.Len() {
			cloneTexts(v.Index(i))
		}
	case reflect.Struct:
		for i := range v.NumField() {
			cloneTexts(v.Field(i))
		}
	}
}

// storedCases are lists of which some have a code.
func storedCases(t *testing.T) [][]impl.Stored {
	return [][]impl.Stored{
		nil, {}, {{}}, make([]impl.Stored, 257), stored(t, "q", "*"), stored(t, "b", "cat", "a", "-cat", "c", "body:ca* tag:red^3", "!", "+(plain:dog -n:5)@1"), stored(t, "a", "*", "a", "*"), stored(t, "a", "none:x"),
	}
}

func suggestCases() [][]string {
	return [][]string{nil, {}, {""}, {"cat", "cats", "bat", "cat", "", "dog"}, {"\xff"}, {strings.Repeat("x", 300), "c\u00e4t"}, make([]string, 4097)}
}

func TestExtrasLeaveTheirArguments(t *testing.T) {
	schemas, lists, queries := meaningCases(t)
	for _, s := range schemas {
		for _, docs := range lists {
			for _, q := range queries {
				s, docs, q := roomyCopy(s), roomyCopy(docs), roomyCopy(q)
				wantS, wantDocs, wantQ := wholeCopy(s), wholeCopy(docs), wholeCopy(q)
				impl.Explain(s, docs, q, "d1")
				for i := range docs {
					impl.Highlight(s, docs[i], "body", q)
					impl.Highlight(s, docs[i], "t", q)
					impl.Explain(s, docs, q, docs[i].Id)
				}
				if !reflect.DeepEqual(wholeCopy(s), wantS) || !reflect.DeepEqual(wholeCopy(docs), wantDocs) || !reflect.DeepEqual(wholeCopy(q), wantQ) {
					t.Errorf("a call with %s wrote into an argument", textOf(q))
				}
			}
			for _, list := range storedCases(t) {
				s, docs, list := roomyCopy(s), roomyCopy(docs), roomyCopy(list)
				wantS, wantDocs, wantList := wholeCopy(s), wholeCopy(docs), wholeCopy(list)
				for i := range docs {
					impl.Percolate(s, list, docs[i])
				}
				if !reflect.DeepEqual(wholeCopy(s), wantS) || !reflect.DeepEqual(wholeCopy(docs), wantDocs) || !reflect.DeepEqual(wholeCopy(list), wantList) {
					t.Errorf("Percolate of %s wrote into an argument", shortStored(list))
				}
			}
		}
	}
	for _, words := range suggestCases() {
		words := roomyCopy(words)
		want := wholeCopy(words)
		for _, most := range []int{-1, 0, 3, 20} {
			impl.Suggest(words, "cat", most)
		}
		if !slices.Equal(wholeCopy(words), want) {
			t.Errorf("Suggest wrote into %s", shortTexts(words))
		}
	}
}

func TestExtrasAnswerNewMemory(t *testing.T) {
	schemas, lists, queries := meaningCases(t)
	told := map[string]int{}
	look := func(what string, list []string, code int, arguments ...any) {
		t.Helper()
		if code != impl.OK && len(list) > 0 {
			t.Errorf("%s: %s with code %d", what, shortTexts(list), code)
		}
		wantOwnMemory(t, what, list, arguments...)
		told[what] += len(list)
	}
	for _, s := range schemas {
		for _, docs := range lists {
			s, docs := ownTexts(s), ownTexts(docs)
			for _, d := range docs {
				for _, q := range queries {
					q = ownTexts(q)
					for _, field := range []string{"body", "plain"} {
						list, code := impl.Highlight(s, d, field, q)
						look("Highlight", list, code, s, d, q, field)
					}
					list, code := impl.Explain(s, docs, q, d.Id)
					look("Explain", list, code, s, docs, q)
				}
				for _, list := range storedCases(t) {
					list := ownTexts(list)
					ids, code := impl.Percolate(s, list, d)
					look("Percolate", ids, code, s, list, d)
				}
			}
		}
	}
	for _, words := range suggestCases() {
		words, text := ownTexts(words), strings.Clone("cat")
		list, code := impl.Suggest(words, text, 9)
		look("Suggest", list, code, words, text)
	}
	for _, what := range []string{"Highlight", "Explain", "Percolate", "Suggest"} {
		if told[what] == 0 {
			t.Errorf("%s tells nothing", what)
		}
	}
}

// What is written into an answer, or into an argument behind the call, is not to
// be seen in the next one.
func TestExtrasKeepNothing(t *testing.T) {
	docs, q := sceneDocs(), queryOf(t, "cat (dog blue)")
	list := stored(t, "b", "cat", "a", "body:dog", "c", "-cat")
	words := []string{"cat", "cats", "bat"}
	calls := map[string]func() []string{
		"Highlight": func() []string { texts, _ := impl.Highlight(scene(), docs[0], "plain", q); return texts },
		"Explain":   func() []string { lines, _ := impl.Explain(scene(), docs, q, "d1"); return lines },
		"Suggest":   func() []string { near, _ := impl.Suggest(words, "cat", 9); return near },
		"Percolate": func() []string { ids, _ := impl.Percolate(scene(), list, docs[0]); return ids },
	}
	for what, call := range calls {
		first := call()
		want := slices.Clone(first)
		if len(want) == 0 {
			t.Errorf("%s tells nothing", what)
		}
		overwrite(first[:cap(first)], "x")
		if again := call(); !slices.Equal(again, want) {
			t.Errorf("%s again: %s, want %s", what, shortTexts(again), shortTexts(want))
		}
		wantApart(t, call(), call(), "x", what)
	}
	kept := map[string][]string{}
	for what, call := range calls {
		kept[what] = call()
	}
	before := copyOf(kept["Highlight"])
	for i := range docs {
		for _, v := range docs[i].Values {
			overwrite(v.Texts, "written over")
		}
	}
	overwrite(words, "dog")
	overwrite(list, impl.Stored{})
	if !slices.Equal(kept["Highlight"], before) || kept["Suggest"][0] != "cat" || kept["Percolate"][0] != "a" {
		t.Errorf("%v", kept)
	}
	if list, _ := impl.Highlight(scene(), docs[0], "plain", q); slices.Equal(list, before) {
		t.Errorf("%s of other texts", shortTexts(list))
	}
}

// Arguments that are far too great have their codes at once.
func TestExtrasEndWithGreatArguments(t *testing.T) {
	all := queryOf(t, "*")
	great := impl.Query{Nodes: make([]impl.Node, 1<<20)}
	wide := impl.Query{Nodes: []impl.Node{{Kind: impl.QBool, Boost: 1, Kids: make([]int, 1<<20)}}}
	long := docWith("a", textsIn("t", strings.Repeat("x ", 1<<22)))
	for _, q := range []impl.Query{great, wide} {
		wantHighlight(t, small(), hutch()[0], "t", q, nil, impl.ErrBad)
		wantExplain(t, small(), hutch(), q, "a", nil, impl.ErrBad)
		wantPercolate(t, small(), []impl.Stored{{Id: "q", Query: q}}, hutch()[0], nil, impl.ErrBad)
	}
	wantHighlight(t, small(), long, "t", all, nil, impl.ErrBad)
	wantHighlight(t, small(), docWith("a", make([]impl.Value, 1<<20)...), "t", all, nil, impl.ErrBad)
	wantHighlight(t, impl.Schema{Fields: make([]impl.FieldDef, 1<<20)}, hutch()[0], "t", all, nil, impl.ErrBad)
	wantExplain(t, small(), make([]impl.Doc, 1<<20), all, "a", nil, impl.ErrMany)
	wantExplain(t, small(), []impl.Doc{long}, all, "a", nil, impl.ErrBad)
	wantPercolate(t, small(), make([]impl.Stored, 1<<20), long, nil, impl.ErrMany)
	wantPercolate(t, small(), stored(t, "q", "*"), long, nil, impl.ErrBad)
	wantSuggest(t, make([]string, 1<<22), "a", 5, nil, impl.ErrLong)
	wantSuggest(t, []string{strings.Repeat("x", 1<<26)}, "a", 5, nil, impl.OK)
}

// The most nodes on a text of the most words, marked all and not at all.
func TestHighlightOfGreatTexts(t *testing.T) {
	s := schemaOf(textField("t", impl.Analyzer{Fold: true, Lo: 1, Hi: 8}))
	d := docWith("d")
	d.Values = []impl.Value{{Field: "t"}}
	for i := range 16 {
		d.Values[0].Texts = append(d.Values[0].Texts, strings.Repeat("abcdefg\u4e2d"+string(rune('a'+i))+" ", 20))
	}
	if !impl.DocOK(s, d) {
		t.Fatal("the document is not valid")
	}
	b := group()
	for i := range 63 {
		b.below = append(b.below, leaf(impl.Node{Kind: impl.QFuzzy, Slop: 2, Text: strings.Repeat("x", 29) + string(rune('a'+i%26))}))
	}
	wantHighlight(t, s, d, "t", b.query(), d.Values[0].Texts, impl.OK)
	b.below[62] = leaf(impl.Node{Kind: impl.QWild, Text: "*"})
	list, code := impl.Highlight(s, d, "t", b.query())
	if code != impl.OK || len(list) != 16 {
		t.Fatalf("%d texts, code %d", len(list), code)
	}
	for i, text := range d.Values[0].Texts {
		want := "[" + strings.ReplaceAll(strings.TrimSpace(text), " ", "] [") + "] "
		if list[i] != want {
			t.Errorf("%s, want %s", short(list[i]), short(want))
		}
	}
}

// As many queries as are kept, each of the most nodes.
func TestPercolateOfGreatQueries(t *testing.T) {
	d := docWith("d", textsIn("t", crowdedText(3)))
	var list []impl.Stored
	var want []string
	for i := range 256 {
		b := group()
		for at := range 63 {
			text := "k" + string(rune('0'+at%10)) + string(rune('a'+i%26))
			b.below = append(b.below, leaf(impl.Node{Kind: impl.QPrefix, Text: text}))
		}
		if i%2 == 0 {
			b.below[62] = leaf(impl.Node{Kind: impl.QFuzzy, Text: "k1", Slop: 1})
		}
		id := "q" + string(rune('a'+i/16)) + string(rune('a'+i%16))
		list = append(list, impl.Stored{Id: id, Query: b.query()})
		if i%2 == 0 {
			want = append(want, id)
		}
	}
	slices.Reverse(list)
	wantPercolate(t, small(), list, d, want, impl.OK)
}
