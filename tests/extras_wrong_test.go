package tests

import (
	"slices"
	"strings"
	"testing"

	"loop.example/g00018/impl"
)

// An extrasAsk is all that is handed in to one of the three calls on documents.
type extrasAsk struct {
	s     impl.Schema
	docs  []impl.Doc // of which Highlight and Percolate take the first
	q     impl.Query
	field string
	id    string
	list  []impl.Stored
}

func rightExtras(t *testing.T) *extrasAsk {
	t.Helper()
	return &extrasAsk{scene(), sceneDocs(), queryOf(t, "cat (plain:dog body:cat*)"), "plain", "c", stored(t, "b", "cat (plain:dog *)", "a", "body:ru* -pet", "c", "none")}
}

// An extrasFault makes one thing wrong.
type extrasFault struct {
	code  int
	apply func(a *extrasAsk)
}

// wantFaultsInOrder tries each fault alone, each two, and all from one on: the
// first one counts.
func wantFaultsInOrder(t *testing.T, faults []extrasFault, want func(a *extrasAsk, code int)) {
	t.Helper()
	try := func(code int, picked ...extrasFault) {
		a := rightExtras(t)
		// The last one is put in first, so that what it writes stands as well.
		for _, fault := range slices.Backward(picked) {
			fault.apply(a)
		}
		want(a, code)
	}
	try(impl.OK)
	for i, first := range faults {
		try(first.code, first)
		for _, second := range faults[i+1:] {
			try(first.code, first, second)
		}
		try(first.code, faults[i:]...)
	}
}

func wrongSchema(a *extrasAsk) { a.s.Fields[0].Name = "Body" }

func wrongFirstDoc(a *extrasAsk) { a.docs[0] = docWith("bad", textsIn("n", "1")) }

func TestHighlightFaultsInOrder(t *testing.T) {
	wantFaultsInOrder(t, []extrasFault{
		{impl.ErrLong, func(a *extrasAsk) { a.field = strings.Repeat("x", 65537) }},
		{impl.ErrBad, wrongSchema},
		{impl.ErrBad, wrongFirstDoc},
		{impl.ErrBad, func(a *extrasAsk) { a.q.Nodes[2].Boost = 0 }},
		{impl.ErrBad, func(a *extrasAsk) { a.q.Nodes[0].Role = 2 }},
		{impl.ErrField, func(a *extrasAsk) { a.q.Nodes[3].Field = "none" }},
		{impl.ErrField, func(a *extrasAsk) { a.field = "none" }},
		{impl.ErrKind, func(a *extrasAsk) { a.field = "tag" }},
	}, func(a *extrasAsk, code int) {
		t.Helper()
		if own := highlightCode(a.s, a.docs[0], a.field, a.q); own != code {
			t.Fatalf("the second telling: code %d, want %d", own, code)
		}
		wantSameHighlight(t, a.s, a.docs[0], a.field, a.q)
	})
}

func TestExplainFaultsInOrder(t *testing.T) {
	wantFaultsInOrder(t, []extrasFault{
		{impl.ErrLong, func(a *extrasAsk) { a.id = strings.Repeat("x", 65537) }},
		{impl.ErrMany, func(a *extrasAsk) { a.docs = append(a.docs, numbered(512)...) }},
		{impl.ErrBad, wrongSchema},
		{impl.ErrBad, func(a *extrasAsk) { a.docs = append(a.docs, docWith("bad", textsIn("n", "1"))) }},
		{impl.ErrBad, func(a *extrasAsk) { a.q.Nodes[2].Boost = 0 }},
		{impl.ErrExists, func(a *extrasAsk) { a.docs = append(a.docs, docWith("c")) }},
		{impl.ErrField, func(a *extrasAsk) { a.q.Nodes[3].Field = "none" }},
		{impl.ErrMissing, func(a *extrasAsk) { a.id = "none" }},
	}, func(a *extrasAsk, code int) {
		t.Helper()
		if own := explainCode(a.s, a.docs, a.q, a.id); own != code {
			t.Fatalf("the second telling: code %d, want %d", own, code)
		}
		wantSameExplain(t, a.s, a.docs, a.q, a.id)
	})
}

func TestPercolateFaultsInOrder(t *testing.T) {
	wantFaultsInOrder(t, []extrasFault{
		{impl.ErrMany, func(a *extrasAsk) { a.list = append(a.list, make([]impl.Stored, 254)...) }},
		{impl.ErrBad, wrongSchema},
		{impl.ErrBad, wrongFirstDoc},
		{impl.ErrBad, func(a *extrasAsk) { a.list[1].Query.Nodes[0].Boost = 100 }},
		{impl.ErrBad, func(a *extrasAsk) { a.list[2].Id = "a b" }},
		{impl.ErrExists, func(a *extrasAsk) { a.list = append(a.list, a.list[0]) }},
		{impl.ErrField, func(a *extrasAsk) { a.list[2].Query.Nodes[0].Field = "none" }},
	}, func(a *extrasAsk, code int) {
		t.Helper()
		if own := percolateCode(a.s, a.list, a.docs[0]); own != code {
			t.Fatalf("the second telling: code %d, want %d", own, code)
		}
		wantSamePercolate(t, a.s, a.list, a.docs[0])
	})
}

// wrongDocs are no documents of scene.
func wrongDocs() []impl.Doc {
	return []impl.Doc{
		{}, docWith("a b"), docWith(strings.Repeat("x", 31)), docWith("x", textsIn("none", "x")), docWith("x", textsIn("plain", "\xff")), docWith("x", textsIn("tag", "")), docWith("x", numbersIn("n", greatestNumber+1)), docWith("x", textsIn("plain", strings.Repeat("a ", 2001))),
		docWith("x", textsIn("tag", "a"), textsIn("plain", "a")), docWith("x", impl.Value{Field: "tag"}), docWith("x", textsIn("n", "1")), docWith("x", numbersIn("plain", 1)),
	}
}

// wrongBranches are no queries.
func wrongBranches() []branch {
	return []branch{
		group(), leaf(impl.Node{Kind: 9}), leaf(impl.Node{}), termLeaf(""), termLeaf("\xff"), termLeaf(strings.Repeat("a", 65)), allLeaf().with(must), allLeaf().boosted(100), nested(8, allLeaf()), leaf(impl.Node{Kind: impl.QRange}), leaf(impl.Node{Kind: impl.QTerm, Text: "a", Field: "Body"}), leaf(impl.Node{Kind: impl.QFuzzy, Text: "a"}), leaf(impl.Node{Kind: impl.QWild, Text: strings.Repeat("?", 9)}),
	}
}

func TestExtrasOfWrongDocs(t *testing.T) {
	q := queryOf(t, "cat")
	for _, d := range wrongDocs() {
		if rightDoc(scene(), d) {
			t.Fatalf("the second telling takes %s", shortDoc(d))
		}
		for _, field := range []string{"plain", "tag", "none", ""} {
			wantHighlight(t, scene(), d, field, q, nil, impl.ErrBad)
		}
		for at := range 3 {
			docs := slices.Insert(sceneDocs()[:2:2], at, d)
			wantExplain(t, scene(), docs, q, "d1", nil, impl.ErrBad)
			wantExplain(t, scene(), docs, q, d.Id, nil, impl.ErrBad)
		}
		wantPercolate(t, scene(), nil, d, nil, impl.ErrBad)
		wantPercolate(t, scene(), stored(t, "q", "*"), d, nil, impl.ErrBad)
		wantPercolate(t, scene(), stored(t, "q", "none:x"), d, nil, impl.ErrBad)
	}
}

func TestExtrasOfWrongSchemas(t *testing.T) {
	q := queryOf(t, "*")
	for _, s := range []impl.Schema{{}, schemaOf(textField("", impl.Analyzer{})), schemaOf(textField("b", impl.Analyzer{}), wordField("a")), schemaOf(wordField("a"), wordField("a")), schemaOf(impl.FieldDef{Name: "a"}), schemaOf(textField("a", impl.Analyzer{Lo: 1})), manyFields(17), schemaOf(impl.FieldDef{Name: "a", Kind: impl.KWord, Analyzer: impl.Analyzer{Fold: true}})} {
		for _, field := range []string{"a", "b", "", "none"} {
			wantHighlight(t, s, docWith("d"), field, q, nil, impl.ErrBad)
		}
		wantExplain(t, s, nil, q, "d", nil, impl.ErrBad)
		wantExplain(t, s, []impl.Doc{docWith("d")}, q, "d", nil, impl.ErrBad)
		wantPercolate(t, s, nil, docWith("d"), nil, impl.ErrBad)
	}
}

func TestExtrasOfWrongQueries(t *testing.T) {
	d := sceneDocs()[0]
	for _, b := range wrongBranches() {
		q := b.query()
		wantHighlight(t, scene(), d, "plain", q, nil, impl.ErrBad)
		wantHighlight(t, scene(), d, "none", q, nil, impl.ErrBad)
		wantHighlight(t, scene(), d, "n", q, nil, impl.ErrBad)
		wantExplain(t, scene(), sceneDocs(), q, "d1", nil, impl.ErrBad)
		wantExplain(t, scene(), nil, q, "none", nil, impl.ErrBad)
		for at := range 3 {
			list := slices.Insert(stored(t, "a", "*", "b", "cat"), at, impl.Stored{Id: "c", Query: q})
			wantPercolate(t, scene(), list, d, nil, impl.ErrBad)
		}
	}
	valid := 0
	for _, q := range sampleQueries() {
		wantSameHighlight(t, scene(), d, "plain", q)
		wantSameHighlight(t, shelf(), book(), "title", q)
		wantSameExplain(t, scene(), sceneDocs(), q, "d1")
		wantSamePercolate(t, scene(), []impl.Stored{{Id: "q", Query: q}}, d)
		valid += btoi(rightQuery(q))
	}
	if valid == 0 {
		t.Error("no query is valid")
	}
}

// Fields that are not in the schema, or not of texts that are analysed.
func TestHighlightOfWrongFields(t *testing.T) {
	d := sceneDocs()[0]
	for field, code := range map[string]int{
		"body": impl.OK, "grams": impl.OK, "plain": impl.OK, "tag": impl.ErrKind, "n": impl.ErrKind, "year": impl.ErrKind, "": impl.ErrField, "none": impl.ErrField, "Body": impl.ErrField, "bod": impl.ErrField, "bodyy": impl.ErrField, "\xff": impl.ErrField, strings.Repeat("x", 31): impl.ErrField, strings.Repeat("x", 65536): impl.ErrField, strings.Repeat("x", 65537): impl.ErrLong, strings.Repeat("\xff", 1<<20): impl.ErrLong,
	} {
		for _, text := range []string{"cat", "*", "-plain:cat", "tag:cat n:[1 2]"} {
			want, own := highlightOf(scene(), d, field, queryOf(t, text))
			if own != code {
				t.Fatalf("the second telling of %s: code %d, want %d", short(field), own, code)
			}
			wantHighlight(t, scene(), d, field, queryOf(t, text), want, code)
		}
		// A node's field that is not there counts ahead of the kind of this one.
		if code != impl.ErrLong {
			wantHighlight(t, scene(), d, field, queryOf(t, "cat none:x"), nil, impl.ErrField)
		}
	}
}

// A node's field counts wherever it stands and whatever its kind is.
func TestExtrasOfMissingFields(t *testing.T) {
	d := sceneDocs()[0]
	for _, text := range []string{"none:x", `none:"x"`, "none:x*", `none:~"x"`, "none:x~1", "none:[1 2]", "cat -none:x", "-(cat (+(none:x)))", "* (* (* none:x^3))", "bod:x", "bodyy:x", "tags:x"} {
		q := queryOf(t, text)
		for _, field := range []string{"plain", "body", "tag", "none"} {
			wantHighlight(t, scene(), d, field, q, nil, impl.ErrField)
		}
		wantHighlight(t, scene(), docWith("z"), "plain", q, nil, impl.ErrField)
		wantExplain(t, scene(), sceneDocs(), q, "d1", nil, impl.ErrField)
		wantExplain(t, scene(), nil, q, "none", nil, impl.ErrField)
		for at := range 3 {
			list := slices.Insert(stored(t, "a", "*", "b", "cat"), at, impl.Stored{Id: "c", Query: q})
			wantPercolate(t, scene(), list, d, nil, impl.ErrField)
			list[(at+1)%3].Id = "c"
			wantPercolate(t, scene(), list, d, nil, impl.ErrExists)
		}
	}
}

func TestExplainOfEqualIds(t *testing.T) {
	q := queryOf(t, "*")
	for i := range 4 {
		for j := range i {
			docs := numbered(4)
			docs[i].Id = docs[j].Id
			for _, id := range []string{"d000", "d001", "d003", "none"} {
				wantExplain(t, small(), docs, q, id, nil, impl.ErrExists)
			}
		}
	}
}

// Ids of stored queries are as those of documents, and no two are the same.
func TestPercolateOfWrongIds(t *testing.T) {
	d := hutch()[0]
	for id, code := range map[string]int{
		"a": impl.OK, "!": impl.OK, "~": impl.OK, "A-b_c.9": impl.OK, strings.Repeat("x", 30): impl.OK, "": impl.ErrBad, " ": impl.ErrBad, "a b": impl.ErrBad, "a\n": impl.ErrBad, "\x7f": impl.ErrBad, "\x00": impl.ErrBad, "\u00e9": impl.ErrBad, "\xff": impl.ErrBad, strings.Repeat("x", 31): impl.ErrBad, strings.Repeat("x", 1<<20): impl.ErrBad,
	} {
		for at := range 3 {
			list := slices.Insert(stored(t, "p", "cat", "q", "dog"), at, impl.Stored{Id: id, Query: queryOf(t, "none")})
			if own := percolateCode(small(), list, d); own != code {
				t.Fatalf("the second telling of %s: code %d, want %d", short(id), own, code)
			}
			wantSamePercolate(t, small(), list, d)
		}
	}
	for i := range 4 {
		for j := range i {
			list := stored(t, "a", "*", "b", "cat", "c", "-*", "d", "none")
			list[i].Id = list[j].Id
			wantPercolate(t, small(), list, d, nil, impl.ErrExists)
			list[i].Query = list[j].Query
			wantPercolate(t, small(), list, d, nil, impl.ErrExists)
		}
	}
	// An id that is not right counts ahead of one that is there twice.
	list := stored(t, "a", "*", "a", "cat", "x y", "none:x")
	wantPercolate(t, small(), list, d, nil, impl.ErrBad)
	wantPercolate(t, small(), append(list[:2:2], list[2], list[2]), d, nil, impl.ErrBad)
}
