package tests

import (
	"fmt"
	"slices"
	"strings"
	"testing"

	"loop.example/g00018/impl"
)

// A fault makes of arguments that are right others with one thing wrong.
type meaningFault struct {
	code  int
	apply func(s *impl.Schema, docs *[]impl.Doc, q *impl.Query)
}

// meaningFaults are in the document's order.
func meaningFaults() []meaningFault {
	return []meaningFault{
		{impl.ErrMany, func(s *impl.Schema, docs *[]impl.Doc, q *impl.Query) { *docs = append(*docs, numbered(512)...) }},
		{impl.ErrBad, func(s *impl.Schema, docs *[]impl.Doc, q *impl.Query) { s.Fields[0].Name = "Body" }},
		{impl.ErrBad, func(s *impl.Schema, docs *[]impl.Doc, q *impl.Query) {
			*docs = append(*docs, docWith("bad", textsIn("n", "1")))
		}},
		{impl.ErrBad, func(s *impl.Schema, docs *[]impl.Doc, q *impl.Query) {
			*docs = slices.Insert(*docs, 0, docWith("a b"))
		}},
		{impl.ErrBad, func(s *impl.Schema, docs *[]impl.Doc, q *impl.Query) { q.Nodes[len(q.Nodes)-1].Boost = 0 }},
		{impl.ErrExists, func(s *impl.Schema, docs *[]impl.Doc, q *impl.Query) { *docs = append(*docs, docWith((*docs)[1].Id)) }},
		{impl.ErrField, func(s *impl.Schema, docs *[]impl.Doc, q *impl.Query) { q.Nodes[len(q.Nodes)-1].Field = "none" }},
		{impl.ErrField, func(s *impl.Schema, docs *[]impl.Doc, q *impl.Query) { q.Nodes[1].Field = "bod" }},
	}
}

// Each fault alone, each two, and all from one on: the first one counts.
func TestMeaningFaultsInOrder(t *testing.T) {
	faults := meaningFaults()
	want := func(t *testing.T, code int, picked ...meaningFault) {
		t.Helper()
		s, docs, q := scene(), sceneDocs(), queryOf(t, "cat (plain:dog body:cat)")
		for _, fault := range picked {
			fault.apply(&s, &docs, &q)
		}
		if own := meaningCode(s, docs, q); own != code {
			t.Fatalf("the second telling: code %d, want %d", own, code)
		}
		wantMeaning(t, s, docs, q, nil, code)
	}
	for i, first := range faults {
		want(t, first.code, first)
		for _, second := range faults[i+1:] {
			want(t, first.code, first, second)
		}
		want(t, first.code, faults[i:]...)
	}
}

func TestMeaningOfWrongSchemas(t *testing.T) {
	q := allLeaf().query()
	long := textField("t", impl.Analyzer{Stops: slices.Repeat([]string{"x"}, 65)})
	for _, s := range []impl.Schema{{}, schemaOf(wordField("")), schemaOf(wordField("b"), wordField("a")), schemaOf(wordField("a"), wordField("a")), schemaOf(impl.FieldDef{Name: "a"}), schemaOf(long), manyFields(17), schemaOf(impl.FieldDef{Name: "a", Kind: impl.KWord, Analyzer: impl.Analyzer{Fold: true}})} {
		if rightSchema(s) {
			t.Fatalf("the second telling takes %s", shortSchema(s))
		}
		wantMeaning(t, s, nil, q, nil, impl.ErrBad)
		wantMeaning(t, s, []impl.Doc{docWith("a")}, q, nil, impl.ErrBad)
	}
	wantMeaning(t, manyFields(16), []impl.Doc{docWith("a")}, q, []impl.Hit{hit("a", 1024)}, impl.OK)
}

func TestMeaningOfWrongDocs(t *testing.T) {
	for _, d := range []impl.Doc{
		{}, docWith("a b"), docWith(strings.Repeat("x", 31)), docWith("x", textsIn("none", "x")), docWith("x", textsIn("plain", "\xff")), docWith("x", textsIn("tag", "")), docWith("x", numbersIn("n", greatestNumber+1)), docWith("x", textsIn("plain", strings.Repeat("a ", 2001))),
		docWith("x", textsIn("tag", "a"), textsIn("plain", "a")), docWith("x", impl.Value{Field: "tag"}), docWith("x", textsIn("n", "1")), docWith("x", numbersIn("tag", 1)),
	} {
		for _, text := range []string{"*", "cat", "n:1"} {
			for at := range 3 {
				docs := slices.Insert(slices.Clone(sceneDocs()[:2]), at, d)
				wantMeaning(t, scene(), docs, queryOf(t, text), nil, impl.ErrBad)
			}
		}
	}
}

func TestMeaningOfWrongQueries(t *testing.T) {
	valid := 0
	for _, q := range sampleQueries() {
		want, code := meaningOf(scene(), sceneDocs(), q)
		wantMeaning(t, scene(), sceneDocs(), q, want, code)
		valid += btoi(rightQuery(q))
		if rightQuery(q) == (code == impl.ErrBad) {
			t.Errorf("%s: code %d", textOf(q), code)
		}
	}
	if valid == 0 {
		t.Error("no query is valid")
	}
	for _, b := range []branch{group(), leaf(impl.Node{Kind: 9}), leaf(impl.Node{}), termLeaf(""), termLeaf("\xff"), termLeaf(strings.Repeat("a", 65)), allLeaf().with(must), allLeaf().boosted(100), nested(9, allLeaf()), leaf(impl.Node{Kind: impl.QRange}), leaf(impl.Node{Kind: impl.QTerm, Text: "a", Field: "Body"})} {
		wantMeaning(t, scene(), sceneDocs(), b.query(), nil, impl.ErrBad)
		wantMeaning(t, scene(), nil, b.query(), nil, impl.ErrBad)
	}
}

func TestMeaningOfEqualIds(t *testing.T) {
	q := allLeaf().query()
	for i := range 5 {
		for j := range i {
			docs := numbered(5)
			docs[i].Id = docs[j].Id
			wantMeaning(t, small(), docs, q, nil, impl.ErrExists)
		}
	}
	docs := numbered(512)
	docs[511].Id = docs[0].Id
	wantMeaning(t, small(), docs, q, nil, impl.ErrExists)
	wantMeaning(t, small(), []impl.Doc{docWith("a"), docWith("A"), docWith("aa")}, q, []impl.Hit{hit("A", 1024), hit("a", 1024), hit("aa", 1024)}, impl.OK)
}

// A field that is not there counts wherever the node stands, and of each kind,
// also if nothing is to be matched.
func TestMeaningOfMissingFields(t *testing.T) {
	for _, field := range []string{"none", "b", "bodyy", "n_", "tags"} {
		for kind := impl.QTerm; kind <= impl.QRange; kind++ {
			n := impl.Node{Kind: kind, Field: field, Text: "x"}
			if kind == impl.QFuzzy {
				n.Slop = 1
			}
			if kind == impl.QRange {
				n.Text = ""
			}
			for _, b := range []branch{leaf(n), group(leaf(n)), group(allLeaf(), leaf(n).with(mustNot)), group(group(termLeaf("x"), group(leaf(n).with(must))), allLeaf())} {
				wantMeaning(t, scene(), sceneDocs(), b.query(), nil, impl.ErrField)
				wantMeaning(t, scene(), nil, b.query(), nil, impl.ErrField)
			}
		}
	}
	// Every field that is there may be asked with every kind.
	for _, def := range scene().Fields {
		for _, text := range []string{"%s:x", `%s:"x y"~2`, "%s:x*", `%s:~"x"`, "%s:x~1", "%s:[1 2]"} {
			wantTextIds(t, scene(), []impl.Doc{docWith("z")}, fmt.Sprintf(text, def.Name), "")
		}
	}
}
