package tests

import (
	"fmt"
	"math/rand"
	"slices"
	"strings"
	"testing"

	"loop.example/g00018/impl"
)

func TestSegmentWritten(t *testing.T) {
	if impl.MaxDocs != 256 {
		t.Errorf("MaxDocs is %d", impl.MaxDocs)
	}
	s := schemaOf(numberField("n"), textField("t", impl.Analyzer{Fold: true, Synonyms: []impl.Synonym{{From: "x", To: "y"}}}), wordField("w"))
	docs := []impl.Doc{
		docWith("a", numbersIn("n", 2, -1, 2), textsIn("t", "X y, x", "z y")), docWith("c"),
		docWith("b", textsIn("t", "z"), textsIn("w", "q", "P", "q")),
	}
	want := impl.Segment{Docs: docs, Fields: []impl.SegField{
		{Name: "n", Dict: impl.Dict{States: []impl.DictState{{}}}, Numbers: [][]int{{-1, 2, 2}, nil, nil}},
		{
			Name: "t",
			Dict: impl.Dict{Count: 3, States: []impl.DictState{{Arcs: []impl.DictArc{{Label: 'x', To: 1, Ahead: 0}, {Label: 'y', To: 1, Ahead: 1}, {Label: 'z', To: 1, Ahead: 2}}}, {Final: true}}},
			Lists: [][]impl.Posting{
				{{Doc: 0, Pos: []int{0, 2}}},
				{{Doc: 0, Pos: []int{0, 1, 2, 104}}},
				{{Doc: 0, Pos: []int{103}}, {Doc: 2, Pos: []int{0}}},
			},
			Lengths: []int{7, 0, 1},
		},
		{
			Name:    "w",
			Dict:    impl.Dict{Count: 2, States: []impl.DictState{{Arcs: []impl.DictArc{{Label: 'P', To: 1, Ahead: 0}, {Label: 'q', To: 1, Ahead: 1}}}, {Final: true}}},
			Lists:   [][]impl.Posting{{{Doc: 2, Pos: []int{1}}}, {{Doc: 2, Pos: []int{0, 2}}}},
			Lengths: []int{0, 0, 3},
		},
	}}
	wantSegment(t, s, docs, want, impl.OK)
	wantSegmentBack(t, s, docs)
}

// Where the schema stands alone every field is there, and empty.
func TestSegmentOfNoDocs(t *testing.T) {
	for _, s := range []impl.Schema{small(), shelf(), manyFields(16), schemaOf(numberField("n")), schemaOf(wordField("w"))} {
		for _, docs := range [][]impl.Doc{nil, {}} {
			g, _ := wantSegmentBack(t, s, docs)
			if len(g.Fields) != len(s.Fields) || len(g.Fields[0].Dict.States) != 1 {
				t.Fatalf("the second telling: %s", shortSegment(g))
			}
		}
	}
}

func TestSegmentOfDocsWithoutFields(t *testing.T) {
	wantSegmentBack(t, shelf(), []impl.Doc{docWith("a")})
	wantSegmentBack(t, shelf(), []impl.Doc{docWith("a"), book(), docWith("b")})
	wantSegmentBack(t, shelf(), []impl.Doc{docWith("a", textsIn("title", "cats")), docWith("b", textsIn("tag", "cats")), docWith("c", numbersIn("year", 1))})
	// Texts that are there, of which no term comes.
	wantSegmentBack(t, shelf(), []impl.Doc{docWith("a", textsIn("body", "the", "", "The, the!"), textsIn("title", "")), docWith("b", textsIn("body", "the cat"))})
	wantSegmentBack(t, schemaOf(textField("t", impl.Analyzer{Lo: 8, Hi: 8})), []impl.Doc{docWith("a", textsIn("t", "cat dog")), docWith("b", textsIn("t", "elephants"))})
}

func TestSegmentsComeBack(t *testing.T) {
	docs := shelfDocs()
	for from := range docs {
		for to := from; to <= len(docs); to++ {
			wantSegmentBack(t, shelf(), docs[from:to])
		}
	}
	slices.Reverse(docs)
	wantSegmentBack(t, shelf(), docs)
	for _, at := range rand.New(rand.NewSource(7)).Perm(len(docs)) {
		docs[0], docs[at] = docs[at], docs[0]
		wantSegmentBack(t, shelf(), docs)
	}
}

// Every list of at most three documents out of a stock, in every order.
func TestSegmentOfFewDocs(t *testing.T) {
	stock := []impl.Doc{
		docWith("a"), docWith("b", textsIn("t", "x")), docWith("c", textsIn("t", "x y x")), docWith("d", textsIn("t", "y", "", "y x")),
		docWith("e", textsIn("w", "x")), docWith("f", numbersIn("n", 3, 1)), docWith("g", numbersIn("n", 2), textsIn("t", "xy"), textsIn("w", "x", "y", "x")),
	}
	var lists func(left int, ahead []impl.Doc)
	lists = func(left int, ahead []impl.Doc) {
		wantSegmentBack(t, small(), ahead)
		if left == 0 {
			return
		}
		for _, d := range stock {
			lists(left-1, append(slices.Clone(ahead), d))
		}
	}
	lists(3, nil)
}

// Of one word a text is told once, however often it comes of it: a place counts as
// often as the term is told there.
func TestSegmentPlaceTold(t *testing.T) {
	for _, a := range []impl.Analyzer{
		{Lo: 1, Hi: 1}, {Lo: 1, Hi: 2},
		{Synonyms: []impl.Synonym{{From: "aaaa", To: "b"}, {From: "aaaa", To: "b"}, {From: "aaaa", To: "c"}}},
		{Stem: true, Synonyms: []impl.Synonym{{From: "cats", To: "cat"}, {From: "cats", To: "cating"}}},
		{Phone: true, Synonyms: []impl.Synonym{{From: "robert", To: "rupert"}}},
	} {
		s := schemaOf(textField("t", a))
		docs := []impl.Doc{docWith("a", textsIn("t", "aaaa robert cats aaaa", "aaaa")), docWith("b", textsIn("t", "cats cats")), docWith("c", textsIn("t", "aaaa"))}
		g, _ := wantSegmentBack(t, s, docs)
		places := 0
		for _, list := range g.Fields[0].Lists {
			for _, posting := range list {
				places += len(posting.Pos)
			}
		}
		if sum := g.Fields[0].Lengths[0] + g.Fields[0].Lengths[1] + g.Fields[0].Lengths[2]; places != sum {
			t.Errorf("%s: %d places, %d terms", shortAnalyzer(a), places, sum)
		}
	}
}

func TestSegmentNumbers(t *testing.T) {
	s := schemaOf(numberField("n"))
	for _, numbers := range [][]int{
		{1}, {2, 1}, {1, 2}, {1, 1}, {3, 1, 2, 1, 3}, {0, -1}, {greatestNumber, 0, -greatestNumber}, {-1, -2, -3},
		{16, 15, 14, 13, 12, 11, 10, 9, 8, 7, 6, 5, 4, 3, 2, 1}, slices.Repeat([]int{5}, 16),
	} {
		docs := []impl.Doc{docWith("a"), docWith("b", numbersIn("n", numbers...)), docWith("c", numbersIn("n", numbers[0])), docWith("d")}
		g, _ := wantSegmentBack(t, s, docs)
		if !slices.Equal(g.Docs[1].Values[0].Numbers, numbers) {
			t.Fatalf("the numbers of a document must stay in their order")
		}
	}
}

func TestSegmentNumberOfDocs(t *testing.T) {
	for _, n := range []int{1, 2, 127, 128, 129, 255, 256} {
		docs := numbered(n)
		docs[n-1].Values = []impl.Value{textsIn("t", "x x")}
		docs[n/2].Values = []impl.Value{textsIn("t", "x")}
		wantSegmentBack(t, small(), docs)
	}
	for _, n := range []int{257, 258, 4096, 4097, 70000} {
		wantSegment(t, small(), numbered(n), impl.Segment{}, impl.ErrMany)
		wantSegment(t, small(), make([]impl.Doc, n), impl.Segment{}, impl.ErrMany)
		wantSegment(t, impl.Schema{}, numbered(n), impl.Segment{}, impl.ErrMany)
	}
}

// wordsIn tells documents of n different words in field t, and of as many words in
// all the others as stand in extra.
func wordsIn(n int, extra ...impl.Value) []impl.Doc {
	var docs []impl.Doc
	for from := 0; from < n; from += 600 {
		var text strings.Builder
		for i := from; i < min(n, from+600); i++ {
			fmt.Fprintf(&text, "%x ", i)
		}
		docs = append(docs, docWith(fmt.Sprintf("w%d", from), append([]impl.Value{textsIn("t", text.String())}, extra...)...))
	}
	return docs
}

func TestSegmentNumberOfTerms(t *testing.T) {
	s := small()
	for _, n := range []int{4095, 4096} {
		g, code := impl.BuildSegment(s, wordsIn(n))
		want, _ := segmentOf(s, wordsIn(n))
		if code != impl.OK || !sameSegment(g, want) || g.Fields[1].Dict.Count != n {
			t.Errorf("%d terms: code %d", n, code)
		}
	}
	wantSegmentBack(t, s, wordsIn(4096))
	wantSegment(t, s, wordsIn(4097), impl.Segment{}, impl.ErrMany)
	wantSegment(t, s, wordsIn(9000), impl.Segment{}, impl.ErrMany)
	// Each field has terms of its own.
	two := schemaOf(textField("t", impl.Analyzer{}), textField("u", impl.Analyzer{}))
	wantSegmentBack(t, two, append(wordsIn(4096), docWith("u", textsIn("u", "one more"))))
	wantSegment(t, two, append(wordsIn(4096), docWith("u", textsIn("t", "one"))), impl.Segment{}, impl.ErrMany)
	// A term that is there already is none more.
	wantSegmentBack(t, s, append(wordsIn(4096), docWith("u", textsIn("t", "ff"))))
	// Just as many words as 256 documents can have.
	docs := numbered(256)
	for i := range docs {
		var texts []string
		for j := range 16 {
			texts = append(texts, fmt.Sprintf("%d", 16*i+j))
		}
		docs[i].Values = []impl.Value{textsIn("w", texts...)}
	}
	if g, _ := wantSegmentBack(t, s, docs); g.Fields[2].Dict.Count != 4096 {
		t.Fatalf("%d terms", g.Fields[2].Dict.Count)
	}
}

// wordsOfStates tells documents whose words have an automaton of n states, for an
// n about MaxStates, as termsOfStates does it, but of letters.
func wordsOfStates(t *testing.T, n int) []impl.Doc {
	t.Helper()
	var terms []string
	for left := n - 8; left > 0; {
		between := min(left, impl.MaxTerm-3)
		left -= between
		high, low := byte('a'+len(terms)/90), byte(33+len(terms)%90)
		terms = append(terms, string([]byte{high, low})+strings.Repeat("x", between-1)+string([]byte{low, high}))
	}
	if d := automatonOf(slices.Sorted(slices.Values(terms))); len(d.States) != n {
		t.Fatalf("%d states, want %d", len(d.States), n)
	}
	var docs []impl.Doc
	for part := range slices.Chunk(terms, 16) {
		docs = append(docs, docWith(part[0][:2], textsIn("w", part...)))
	}
	return docs
}

func TestSegmentNumberOfStates(t *testing.T) {
	for _, n := range []int{16383, 16384} {
		wantSegmentBack(t, small(), wordsOfStates(t, n))
	}
	for _, n := range []int{16385, 16386} {
		wantSegment(t, small(), wordsOfStates(t, n), impl.Segment{}, impl.ErrMany)
	}
}

func TestSegmentFaults(t *testing.T) {
	broken := small()
	broken.Fields[1].Name = "A"
	wrong := docWith("x", textsIn("none", "x"))
	twice := []impl.Doc{docWith("x"), docWith("y"), docWith("x", textsIn("t", "other"))}
	many := wordsIn(4097)
	for _, row := range []struct {
		s    impl.Schema
		docs []impl.Doc
		code int
	}{
		{broken, nil, impl.ErrBad}, {impl.Schema{}, nil, impl.ErrBad}, {manyFields(17), nil, impl.ErrBad}, {broken, numbered(3), impl.ErrBad},
		{small(), []impl.Doc{wrong}, impl.ErrBad}, {small(), []impl.Doc{docWith("a"), {}, docWith("b")}, impl.ErrBad}, {small(), []impl.Doc{docWith("a"), docWith("b"), wrong}, impl.ErrBad},
		{small(), twice, impl.ErrExists}, {small(), []impl.Doc{docWith("x"), docWith("x")}, impl.ErrExists}, {small(), append(numbered(255), docWith("d000")), impl.ErrExists},
		{small(), many, impl.ErrMany}, {small(), []impl.Doc{docWith("x"), docWith("X")}, impl.OK},
		// Two faults: the first one by the chapter counts, wherever they stand.
		{small(), append(numbered(256), wrong), impl.ErrMany}, {broken, numbered(257), impl.ErrMany}, {small(), slices.Repeat(twice, 90), impl.ErrMany}, {small(), append(many, numbered(256)...), impl.ErrMany},
		{broken, twice, impl.ErrBad}, {small(), append(slices.Clone(twice), wrong), impl.ErrBad}, {small(), append([]impl.Doc{wrong}, twice...), impl.ErrBad}, {small(), []impl.Doc{wrong, wrong}, impl.ErrBad},
		{broken, many, impl.ErrBad}, {small(), append(slices.Clone(many), wrong), impl.ErrBad},
		{small(), append(slices.Clone(many), twice...), impl.ErrExists}, {small(), append(slices.Clone(many), many[0]), impl.ErrExists},
		{small(), slices.Concat(many, twice, []impl.Doc{wrong}), impl.ErrBad},
	} {
		if _, code := segmentOf(row.s, row.docs); code != row.code {
			t.Fatalf("the second telling: code %d, want %d", code, row.code)
		}
		if row.code != impl.OK {
			wantSegment(t, row.s, row.docs, impl.Segment{}, row.code)
		} else {
			wantSegmentBack(t, row.s, row.docs)
		}
	}
}

// Every fault that a document can have is one here too.
func TestSegmentOfWrongDocs(t *testing.T) {
	long := strings.Repeat("x", 65)
	for _, d := range []impl.Doc{
		{}, docWith(""), docWith("a b"), docWith(strings.Repeat("i", 31)), docWith("i", textsIn("t")), docWith("i", textsIn("w", "")), docWith("i", textsIn("w", long)),
		docWith("i", textsIn("t", "\xff")), docWith("i", numbersIn("n")), docWith("i", numbersIn("n", greatestNumber+1)), docWith("i", numbersIn("t", 1)), docWith("i", textsIn("n", "1")),
		docWith("i", textsIn("t", "a"), numbersIn("n", 1)), docWith("i", textsIn("t", "a"), textsIn("t", "a")), docWith("i", textsIn("t", strings.Repeat("x", 4001))),
		docWith("i", textsIn("t", slices.Repeat([]string{"x"}, 17)...)), docWith("i", impl.Value{Field: "t", Texts: []string{"x"}, Numbers: []int{1}}),
	} {
		for _, docs := range [][]impl.Doc{{d}, {docWith("a"), d}, {d, docWith("a")}} {
			wantSegment(t, small(), docs, impl.Segment{}, impl.ErrBad)
		}
	}
	crowded := schemaOf(textField("t", manySynonyms()))
	wantSegment(t, crowded, []impl.Doc{docWith("i", textsIn("t", strings.Repeat("a ", 200)))}, impl.Segment{}, impl.ErrBad)
}

func TestSegmentOfRandomDocs(t *testing.T) {
	source := rand.New(rand.NewSource(71))
	for range 150 {
		s := schemaOf(textField("a", randomAnalyzer(source)), textField("b", randomAnalyzer(source)), wordField("c"), numberField("d"))
		var docs []impl.Doc
		for i := range source.Intn(8) {
			if d := randomDoc(source, s); rightDoc(s, d) {
				d.Id += fmt.Sprint(i)
				docs = append(docs, d)
			}
		}
		wantSegmentBack(t, s, docs)
		wantStandsThere(t, s, docs)
	}
}

// wantStandsThere holds the promise itself: a posting stands where the document's
// terms do, and nowhere else.
func wantStandsThere(t *testing.T, s impl.Schema, docs []impl.Doc) {
	t.Helper()
	g, code := impl.BuildSegment(s, docs)
	if code != impl.OK {
		t.Fatalf("BuildSegment: code %d", code)
	}
	for at, field := range []string{"a", "b", "c"} {
		f := g.Fields[at]
		told := 0
		for i, d := range docs {
			terms, _ := impl.Terms(s, d, field)
			told += len(terms)
			for _, term := range terms {
				n, code := impl.DictFind(f.Dict, term.Text)
				if code != impl.OK || !slices.ContainsFunc(f.Lists[n], func(p impl.Posting) bool { return p.Doc == i && slices.Contains(p.Pos, term.Pos) }) {
					t.Errorf("%q at %d of document %d is in no list", term.Text, term.Pos, i)
				}
			}
		}
		for _, list := range f.Lists {
			for _, posting := range list {
				told -= len(posting.Pos)
			}
		}
		if told != 0 {
			t.Errorf("%d places more are in documents than in lists", told)
		}
	}
}
