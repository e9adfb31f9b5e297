package tests

import (
	"reflect"
	"strings"
	"testing"

	"loop.example/g00018/impl"
)

// meaningCases are arguments of which some have a code.
func meaningCases(t *testing.T) (schemas []impl.Schema, docs [][]impl.Doc, queries []impl.Query) {
	schemas = []impl.Schema{scene(), small(), {}, shelf()}
	docs = [][]impl.Doc{nil, sceneDocs(), shelfDocs(), {docWith("a"), docWith("a")}, numbered(20), sampleDocs()}
	for _, text := range []string{"*", "cat", "-cat", `"the cat of the dog"~3 n:5 tag:red* year:[1 *]`, "+(cat -dog)@1^3 c?t~2", "none:x", `body:"cat cats" title:~"*"`} {
		if q, code := impl.ParseQuery(text); code == impl.OK {
			queries = append(queries, q)
		}
	}
	return schemas, docs, append(queries, sampleQueries()[:8]...)
}

func TestMeaningLeavesItsArguments(t *testing.T) {
	schemas, lists, queries := meaningCases(t)
	for _, s := range schemas {
		for _, docs := range lists {
			for _, q := range queries {
				s, docs, q := roomyCopy(s), roomyCopy(docs), roomyCopy(q)
				wantS, wantDocs, wantQ := wholeCopy(s), wholeCopy(docs), wholeCopy(q)
				impl.Meaning(s, docs, q)
				if !reflect.DeepEqual(wholeCopy(s), wantS) || !reflect.DeepEqual(wholeCopy(docs), wantDocs) || !reflect.DeepEqual(wholeCopy(q), wantQ) {
					t.Errorf("Meaning of %s wrote into an argument", textOf(q))
				}
			}
		}
	}
}

func TestMeaningAnswersNewMemory(t *testing.T) {
	schemas, lists, queries := meaningCases(t)
	told := 0
	for _, s := range schemas {
		for _, docs := range lists {
			docs = copyOf(docs)
			for i := range docs {
				docs[i].Id = strings.Clone(docs[i].Id)
			}
			for _, q := range queries {
				list, code := impl.Meaning(s, docs, q)
				if code != impl.OK && len(list) > 0 {
					t.Errorf("Meaning of %s: %v with code %d", textOf(q), list, code)
				}
				wantOwnMemory(t, "Meaning", list, s, docs, q)
				told += len(list)
			}
		}
	}
	if told == 0 {
		t.Error("nothing is told")
	}
}

// What is written into an answer, or into an argument behind the call, is not to
// be seen in the next one.
func TestMeaningKeepsNothing(t *testing.T) {
	q := queryOf(t, "cat blue")
	docs := sceneDocs()
	want, _ := meaningOf(scene(), sceneDocs(), q)
	first, _ := impl.Meaning(scene(), docs, q)
	for i := range first {
		first[i] = hit("x", -1)
	}
	wantMeaning(t, scene(), docs, q, want, impl.OK)
	kept, _ := impl.Meaning(scene(), docs, q)
	for i := range docs {
		docs[i] = impl.Doc{}
	}
	wantMeaning(t, scene(), sceneDocs(), q, want, impl.OK)
	if !reflect.DeepEqual(kept, want) {
		t.Errorf("%v, want %v", kept, want)
	}
}

// Arguments that are far too great have their codes at once.
func TestMeaningEndsWithGreatArguments(t *testing.T) {
	wantMeaning(t, small(), make([]impl.Doc, 1<<20), impl.Query{}, nil, impl.ErrMany)
	wantMeaning(t, small(), numbered(3), impl.Query{Nodes: make([]impl.Node, 1<<20)}, nil, impl.ErrBad)
	wantMeaning(t, impl.Schema{Fields: make([]impl.FieldDef, 1<<20)}, nil, allLeaf().query(), nil, impl.ErrBad)
	long := docWith("a", textsIn("t", strings.Repeat("x ", 1<<22)))
	wantMeaning(t, small(), []impl.Doc{long}, allLeaf().query(), nil, impl.ErrBad)
	wantMeaning(t, small(), []impl.Doc{docWith("a", make([]impl.Value, 1<<20)...)}, allLeaf().query(), nil, impl.ErrBad)
	wantMeaning(t, small(), numbered(3), termLeaf(strings.Repeat("x", 1<<24)).query(), nil, impl.ErrBad)
	kids := make([]int, 1<<20)
	wantMeaning(t, small(), numbered(3), impl.Query{Nodes: []impl.Node{{Kind: impl.QBool, Boost: 1, Kids: kids}}}, nil, impl.ErrBad)
}
