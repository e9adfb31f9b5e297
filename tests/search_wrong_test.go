package tests

import (
	"slices"
	"strings"
	"testing"

	"loop.example/g00018/impl"
)

// A searchFault makes of arguments that are right others with one thing wrong.
type searchFault struct {
	code  int
	apply func(s *impl.Schema, segs *[][]impl.Doc, a *impl.Ask)
}

// withMore tells segments in which the number of all documents is beyond what may
// be searched, that of each one not.
func withMore(segs [][]impl.Doc) [][]impl.Doc {
	return append(segs, cutAt(numbered(513), 171, 171)...)
}

// searchFaults are in the document's order.
func searchFaults() []searchFault {
	return []searchFault{
		{impl.ErrMany, func(s *impl.Schema, segs *[][]impl.Doc, a *impl.Ask) {
			*segs = append(*segs, make([][]impl.Doc, 15)...)
		}},
		{impl.ErrMany, func(s *impl.Schema, segs *[][]impl.Doc, a *impl.Ask) { (*segs)[1] = numbered(257) }},
		{impl.ErrMany, func(s *impl.Schema, segs *[][]impl.Doc, a *impl.Ask) { *segs = withMore(*segs) }},
		{impl.ErrBad, func(s *impl.Schema, segs *[][]impl.Doc, a *impl.Ask) { s.Fields[0].Name = "Body" }},
		{impl.ErrBad, func(s *impl.Schema, segs *[][]impl.Doc, a *impl.Ask) {
			(*segs)[1] = append((*segs)[1], docWith("bad", textsIn("n", "1")))
		}},
		{impl.ErrBad, func(s *impl.Schema, segs *[][]impl.Doc, a *impl.Ask) { a.Query.Nodes[0].Boost = 0 }},
		{impl.ErrExists, func(s *impl.Schema, segs *[][]impl.Doc, a *impl.Ask) {
			(*segs)[1] = append((*segs)[1], docWith((*segs)[0][0].Id))
		}},
		{impl.ErrField, func(s *impl.Schema, segs *[][]impl.Doc, a *impl.Ask) { a.Query.Nodes[1].Field = "none" }},
		{impl.ErrRange, func(s *impl.Schema, segs *[][]impl.Doc, a *impl.Ask) { a.From = -1 }},
		{impl.ErrRange, func(s *impl.Schema, segs *[][]impl.Doc, a *impl.Ask) { a.Size = 1001 }},
		{impl.ErrRange, func(s *impl.Schema, segs *[][]impl.Doc, a *impl.Ask) { a.Sort = append(a.Sort, up("n", "n", "n")...) }},
		{impl.ErrField, func(s *impl.Schema, segs *[][]impl.Doc, a *impl.Ask) { a.Sort[0].Field = "none" }},
		{impl.ErrField, func(s *impl.Schema, segs *[][]impl.Doc, a *impl.Ask) { a.Collapse = "tags" }},
		{impl.ErrKind, func(s *impl.Schema, segs *[][]impl.Doc, a *impl.Ask) { a.Sort[1].Field = "body" }},
		{impl.ErrKind, func(s *impl.Schema, segs *[][]impl.Doc, a *impl.Ask) {
			if a.Collapse == "tag" { // else it is not there, which counts ahead
				a.Collapse = "plain"
			}
		}},
		{impl.ErrRange, func(s *impl.Schema, segs *[][]impl.Doc, a *impl.Ask) {
			a.Behind, a.Last.Keys = true, []int{1, 2, 3, 4, 5, 6}
		}},
	}
}

// Each fault alone, each two, and all from one on: the first one counts.
func TestSearchFaultsInOrder(t *testing.T) {
	faults := searchFaults()
	want := func(t *testing.T, code int, picked ...searchFault) {
		t.Helper()
		s, segs := scene(), cutAt(sceneDocs(), 3)
		a := impl.Ask{Query: queryOf(t, "cat (plain:dog body:cat)"), From: 1, Size: 5, Sort: append(up("n"), down("year")...), Collapse: "tag", Behind: true, Last: last("a", 9999, 1, 2)}
		for _, fault := range picked {
			fault.apply(&s, &segs, &a)
		}
		if own := searchCode(s, segs, a); own != code {
			t.Fatalf("the second telling: code %d, want %d", own, code)
		}
		wantSearch(t, s, segs, a, impl.Result{}, code)
	}
	for i, first := range faults {
		want(t, first.code, first)
		for _, second := range faults[i+1:] {
			want(t, first.code, first, second)
		}
		want(t, first.code, faults[i:]...)
	}
}

// Each field as a key and as Collapse: only one of its kind will do.
func TestSearchOfWrongFields(t *testing.T) {
	all := queryOf(t, "*")
	segs := cutAt(sceneDocs(), 2)
	for name, kind := range map[string]int{"body": 1, "grams": 1, "plain": 1, "tag": 2, "n": 3, "year": 3, "none": 0, "N": 0, "tags": 0, "ta": 0, "n ": 0, "\xff": 0, strings.Repeat("n", 1<<17): 0, "": 0} {
		keyCode, collapseCode := impl.ErrKind, impl.ErrKind
		if kind == 0 {
			keyCode, collapseCode = impl.ErrField, impl.ErrField
		}
		if kind == impl.KNumber {
			keyCode = impl.OK
		}
		if kind == impl.KWord || name == "" {
			collapseCode = impl.OK
		}
		for _, way := range []bool{false, true} {
			key := impl.SortKey{Field: name, Down: way}
			for _, keys := range [][]impl.SortKey{{key}, append(up("n"), key), append([]impl.SortKey{key}, down("year")...), append(up("n", "n", "n"), key)} {
				for _, docs := range [][][]impl.Doc{segs, nil} {
					a := impl.Ask{Query: all, Size: 9, Sort: keys}
					want, code := searchOf(scene(), docs, a)
					if code != keyCode {
						t.Fatalf("the second telling of a key %s: code %d", short(name), code)
					}
					wantSearch(t, scene(), docs, a, want, code)
				}
			}
		}
		for _, docs := range [][][]impl.Doc{segs, nil} {
			a := impl.Ask{Query: all, Size: 9, Collapse: name}
			want, code := searchOf(scene(), docs, a)
			if code != collapseCode {
				t.Fatalf("the second telling of Collapse %s: code %d", short(name), code)
			}
			wantSearch(t, scene(), docs, a, want, code)
		}
	}
	// A missing one counts ahead of one of another kind, wherever they stand.
	for _, a := range []impl.Ask{{Sort: up("tag", "none")}, {Sort: up("none", "tag")}, {Sort: up("tag"), Collapse: "none"}, {Sort: up("none"), Collapse: "n"}, {Sort: up("n", "body", "year", "")}} {
		a.Query = all
		wantSearch(t, scene(), segs, a, impl.Result{}, impl.ErrField)
	}
}

// Behind with other than a key for each of Sort.
func TestSearchOfWrongLast(t *testing.T) {
	all := queryOf(t, "*")
	for keys := range 5 {
		for given := range 7 {
			a := impl.Ask{Query: all, Size: 9, Sort: slices.Repeat(up("n"), keys), Behind: true, Last: last("a", 1024, make([]int, given)...)}
			want, code := searchOf(small(), oneSegment(pile()), a)
			if (code == impl.ErrRange) != (keys != given) {
				t.Fatalf("the second telling: code %d", code)
			}
			wantSearch(t, small(), oneSegment(pile()), a, want, code)
			wantSearch(t, small(), nil, a, impl.Result{}, code)
			a.Behind = false
			wantSameSearch(t, small(), oneSegment(pile()), a)
		}
	}
	wantSearch(t, small(), oneSegment(pile()), impl.Ask{Query: all, Behind: true, Last: last("a", 0, make([]int, 1<<20)...)}, impl.Result{}, impl.ErrRange)
}

func TestSearchOfWrongDocs(t *testing.T) {
	all := impl.Ask{Query: queryOf(t, "*"), Size: 9}
	for _, d := range []impl.Doc{{}, docWith("a b"), docWith(strings.Repeat("x", 31)), docWith("x", textsIn("none", "x")), docWith("x", textsIn("plain", "\xff")), docWith("x", textsIn("tag", "")), docWith("x", numbersIn("n", greatestNumber+1)), docWith("x", textsIn("tag", "a"), textsIn("plain", "a")), docWith("x", textsIn("plain", strings.Repeat("a ", 2001)))} {
		for at := range 3 {
			segs := cutAt(sceneDocs(), 2, 2)
			segs[at] = append(slices.Clone(segs[at]), d)
			wantSearch(t, scene(), segs, all, impl.Result{}, impl.ErrBad)
		}
	}
	for _, s := range []impl.Schema{{}, schemaOf(wordField("")), schemaOf(wordField("b"), wordField("a")), manyFields(17)} {
		wantSearch(t, s, nil, all, impl.Result{}, impl.ErrBad)
		wantSearch(t, s, oneSegment(numbered(1)), all, impl.Result{}, impl.ErrBad)
	}
}

// Equal ids, in one segment or in two of them.
func TestSearchOfEqualIds(t *testing.T) {
	all := impl.Ask{Query: queryOf(t, "*"), Size: 9}
	for i := range 6 {
		for j := range i {
			docs := numbered(6)
			docs[i].Id = docs[j].Id
			for _, segs := range [][][]impl.Doc{oneSegment(docs), cutAt(docs, 3), cutAt(docs, 1, 1, 1, 1, 1)} {
				wantSearch(t, small(), segs, all, impl.Result{}, impl.ErrExists)
			}
		}
	}
}

func TestSearchOfWrongQueries(t *testing.T) {
	for _, q := range sampleQueries() {
		for _, segs := range [][][]impl.Doc{nil, cutAt(sceneDocs(), 4)} {
			wantSameSearch(t, scene(), segs, impl.Ask{Query: q, Size: 9})
		}
	}
	for _, b := range []branch{group(), leaf(impl.Node{Kind: 9}), leaf(impl.Node{}), termLeaf(""), allLeaf().with(must), allLeaf().boosted(100), nested(9, allLeaf()), leaf(impl.Node{Kind: impl.QRange})} {
		wantSearch(t, scene(), cutAt(sceneDocs(), 4), impl.Ask{Query: b.query(), Size: 9}, impl.Result{}, impl.ErrBad)
	}
	for _, text := range []string{"none:x", "cat none:[1 2]", "-none:x*", "(cat (+none:x~1)) *"} {
		wantSearch(t, scene(), cutAt(sceneDocs(), 4), impl.Ask{Query: queryOf(t, text), Size: 9}, impl.Result{}, impl.ErrField)
	}
}
