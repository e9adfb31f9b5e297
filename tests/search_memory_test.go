package tests

import (
	"reflect"
	"strings"
	"testing"

	"loop.example/g00018/impl"
)

// searchCases are arguments of which some have a code.
func searchCases(t *testing.T) (schemas []impl.Schema, segs [][][]impl.Doc, asks []impl.Ask) {
	schemas, lists, queries := meaningCases(t)
	for _, docs := range lists {
		segs = append(segs, oneSegment(docs), cutAt(docs, len(docs)/2, 0))
	}
	for i, q := range queries {
		asks = append(asks, impl.Ask{Query: q, Size: 9}, impl.Ask{Query: q, From: i % 2, Size: 3, Sort: append(up("n"), down("year")...), Collapse: "tag"})
		asks = append(asks, impl.Ask{Query: q, Size: 9, Sort: up("n"), Behind: true, Last: last("a", 1024, 1)}, impl.Ask{Query: q, Size: 9, Sort: down("n", "n"), Behind: true, Last: last("a", 0, 3)})
	}
	return schemas, segs, append(asks, impl.Ask{}, impl.Ask{Query: queries[0], From: -1}, impl.Ask{Query: queries[0], Collapse: "n"})
}

func TestSearchLeavesItsArguments(t *testing.T) {
	schemas, lists, asks := searchCases(t)
	for _, s := range schemas {
		for _, segs := range lists {
			for _, a := range asks {
				s, segs, a := roomyCopy(s), roomyCopy(segs), roomyCopy(a)
				wantS, wantSegs, wantA := wholeCopy(s), wholeCopy(segs), wholeCopy(a)
				impl.Search(s, segs, a)
				text, _ := impl.PrintQuery(a.Query)
				if len(segs) > 0 {
					impl.SearchText(s, segs[0], text, a.Size)
				}
				if !reflect.DeepEqual(wholeCopy(s), wantS) || !reflect.DeepEqual(wholeCopy(segs), wantSegs) || !reflect.DeepEqual(wholeCopy(a), wantA) {
					t.Errorf("Search of %s wrote into an argument", shortAsk(a))
				}
			}
		}
	}
}

func TestSearchAnswersNewMemory(t *testing.T) {
	schemas, lists, asks := searchCases(t)
	told, keys := 0, 0
	for _, s := range schemas {
		for _, segs := range lists {
			segs = copyOf(segs)
			for _, docs := range segs {
				for i := range docs {
					docs[i].Id = strings.Clone(docs[i].Id)
				}
			}
			for _, a := range asks {
				r, code := impl.Search(s, segs, a)
				if code != impl.OK && (r.Total != 0 || len(r.Hits) > 0) {
					t.Errorf("Search of %s: %s with code %d", shortAsk(a), shortResult(r), code)
				}
				wantOwnMemory(t, "Search", r, s, segs, a)
				told += len(r.Hits)
				for _, f := range r.Hits {
					keys += len(f.Keys)
				}
				text, _ := impl.PrintQuery(a.Query)
				hits, code := impl.SearchText(s, segs[0], text, 5)
				if code != impl.OK && len(hits) > 0 {
					t.Errorf("SearchText of %s: %v with code %d", text, hits, code)
				}
				wantOwnMemory(t, "SearchText", hits, s, segs, text)
			}
		}
	}
	if told == 0 || keys == 0 {
		t.Error("nothing is told")
	}
}

// What is written into an answer, or into an argument behind the call, is not to
// be seen in the next one.
func TestSearchKeepsNothing(t *testing.T) {
	a := impl.Ask{Query: queryOf(t, "cat blue *"), Size: 9, Sort: append(up("n"), down("year")...)}
	want, _ := searchOf(scene(), cutAt(sceneDocs(), 3), a)
	segs := cutAt(sceneDocs(), 3)
	first := mustSearch(t, scene(), segs, a)
	for i := range first.Hits {
		for j := range first.Hits[i].Keys {
			first.Hits[i].Keys[j] = -1
		}
		first.Hits[i].Score = -1
	}
	wantSearch(t, scene(), segs, a, want, impl.OK)
	kept := mustSearch(t, scene(), segs, a)
	for _, docs := range segs {
		for i := range docs {
			docs[i] = impl.Doc{}
		}
	}
	if !sameResult(kept, want) {
		t.Errorf("%s, want %s", shortResult(kept), shortResult(want))
	}
	wantSearch(t, scene(), cutAt(sceneDocs(), 3), a, want, impl.OK)
	// A page's last hit may be handed in again, and stays as it was.
	page := mustSearch(t, scene(), cutAt(sceneDocs(), 3), impl.Ask{Query: a.Query, Size: 2, Sort: a.Sort})
	lastOne := copyOf(page.Hits[1])
	next := mustSearch(t, scene(), cutAt(sceneDocs(), 3), impl.Ask{Query: a.Query, Size: 2, Sort: a.Sort, Behind: true, Last: page.Hits[1]})
	wantOwnMemory(t, "Search", next, page)
	if !sameFound(page.Hits[1], lastOne) {
		t.Errorf("%v, was %v", page.Hits[1], lastOne)
	}
}

// Arguments that are far too great have their codes at once.
func TestSearchEndsWithGreatArguments(t *testing.T) {
	all := queryOf(t, "*")
	wantSearch(t, small(), oneSegment(make([]impl.Doc, 1<<20)), impl.Ask{Query: all}, impl.Result{}, impl.ErrMany)
	wantSearch(t, small(), oneSegment(numbered(3)), impl.Ask{Query: impl.Query{Nodes: make([]impl.Node, 1<<20)}}, impl.Result{}, impl.ErrBad)
	wantSearch(t, impl.Schema{Fields: make([]impl.FieldDef, 1<<20)}, nil, impl.Ask{Query: all}, impl.Result{}, impl.ErrBad)
	wantSearch(t, small(), oneSegment([]impl.Doc{docWith("a", textsIn("t", strings.Repeat("x ", 1<<22)))}), impl.Ask{Query: all}, impl.Result{}, impl.ErrBad)
	wantSearch(t, small(), oneSegment(numbered(3)), impl.Ask{Query: all, Collapse: strings.Repeat("x", 1<<24)}, impl.Result{}, impl.ErrField)
	wantSearch(t, small(), oneSegment(numbered(3)), impl.Ask{Query: all, Size: 9, Behind: true, Last: last(strings.Repeat("x", 1<<24), 1024)}, impl.Result{Total: 3}, impl.OK)
}
