package tests

import (
	"fmt"
	"iter"
	"slices"
	"testing"

	"loop.example/g00018/impl"
)

// A change is a segment of which one part was made another one.
type change struct {
	what string
	g    impl.Segment
}

// changes tells segments that differ from g in one part each.
func changes(g impl.Segment) iter.Seq[change] {
	return func(yield func(change) bool) {
		more := true
		tell := func(what string, do func(g *impl.Segment)) {
			c := copyOf(g)
			do(&c)
			more = more && yield(change{what, c})
		}
		listChanges(tell, "documents", len(g.Docs), func(g *impl.Segment) *[]impl.Doc { return &g.Docs }, docWith("other"))
		for i, d := range g.Docs {
			docChanges(tell, fmt.Sprintf("document %d", i), d, func(g *impl.Segment) *impl.Doc { return &g.Docs[i] })
		}
		listChanges(tell, "fields", len(g.Fields), func(g *impl.Segment) *[]impl.SegField { return &g.Fields }, impl.SegField{Name: "zz", Dict: automatonOf(nil)})
		for i, f := range g.Fields {
			fieldChanges(tell, f.Name, f, func(g *impl.Segment) *impl.SegField { return &g.Fields[i] })
		}
	}
}

type telling func(what string, do func(g *impl.Segment))

// listChanges puts an element in, leaves one out, doubles one, changes two about.
func listChanges[T any](tell telling, what string, n int, list func(g *impl.Segment) *[]T, other T) {
	for i := range n + 1 {
		tell(fmt.Sprintf("%s: one more at %d", what, i), func(g *impl.Segment) { *list(g) = slices.Insert(*list(g), i, other) })
	}
	for i := range n {
		tell(fmt.Sprintf("%s: without %d", what, i), func(g *impl.Segment) { *list(g) = slices.Delete(*list(g), i, i+1) })
		tell(fmt.Sprintf("%s: %d twice", what, i), func(g *impl.Segment) { *list(g) = slices.Insert(*list(g), i, (*list(g))[i]) })
		tell(fmt.Sprintf("%s: another %d", what, i), func(g *impl.Segment) { (*list(g))[i] = other })
		if i > 0 {
			tell(fmt.Sprintf("%s: %d and the one ahead changed about", what, i), func(g *impl.Segment) { (*list(g))[i], (*list(g))[i-1] = (*list(g))[i-1], (*list(g))[i] })
		}
	}
	tell(what+": none", func(g *impl.Segment) { *list(g) = nil })
}

func numberChanges(tell telling, what string, number func(g *impl.Segment) *int) {
	for _, by := range []int{-1, 1, 1000, -1 << 62} {
		tell(fmt.Sprintf("%s: %d more", what, by), func(g *impl.Segment) { *number(g) += by })
	}
}

func docChanges(tell telling, what string, d impl.Doc, doc func(g *impl.Segment) *impl.Doc) {
	for _, id := range []string{"", "other", d.Id + "x", "a b"} {
		tell(what+": id "+id, func(g *impl.Segment) { doc(g).Id = id })
	}
	listChanges(tell, what+": values", len(d.Values), func(g *impl.Segment) *[]impl.Value { return &doc(g).Values }, textsIn("tag", "new"))
	for i, v := range d.Values {
		value := func(g *impl.Segment) *impl.Value { return &doc(g).Values[i] }
		tell(what+": another field", func(g *impl.Segment) { value(g).Field += "x" })
		listChanges(tell, what+": texts of "+v.Field, len(v.Texts), func(g *impl.Segment) *[]string { return &value(g).Texts }, "boat")
		listChanges(tell, what+": numbers of "+v.Field, len(v.Numbers), func(g *impl.Segment) *[]int { return &value(g).Numbers }, 12)
	}
}

func fieldChanges(tell telling, what string, f impl.SegField, field func(g *impl.Segment) *impl.SegField) {
	for _, name := range []string{"", f.Name + "x", f.Name[1:], "body", "year"} {
		if name != f.Name {
			tell(what+": name "+name, func(g *impl.Segment) { field(g).Name = name })
		}
	}
	dictChanges(tell, what+": dict", f.Dict, func(g *impl.Segment) *impl.Dict { return &field(g).Dict })
	listChanges(tell, what+": lists", len(f.Lists), func(g *impl.Segment) *[][]impl.Posting { return &field(g).Lists }, []impl.Posting{{Doc: 0, Pos: []int{7}}})
	listChanges(tell, what+": lengths", len(f.Lengths), func(g *impl.Segment) *[]int { return &field(g).Lengths }, 5)
	listChanges(tell, what+": numbers", len(f.Numbers), func(g *impl.Segment) *[][]int { return &field(g).Numbers }, []int{3})
	for i, list := range f.Lists {
		postings := func(g *impl.Segment) *[]impl.Posting { return &field(g).Lists[i] }
		listChanges(tell, fmt.Sprintf("%s: list %d", what, i), len(list), postings, impl.Posting{Doc: 2, Pos: []int{1}})
		for j, posting := range list {
			name := fmt.Sprintf("%s: posting %d of list %d", what, j, i)
			numberChanges(tell, name+": doc", func(g *impl.Segment) *int { return &(*postings(g))[j].Doc })
			listChanges(tell, name+": pos", len(posting.Pos), func(g *impl.Segment) *[]int { return &(*postings(g))[j].Pos }, 9)
			for k := range posting.Pos {
				numberChanges(tell, name+": a pos", func(g *impl.Segment) *int { return &(*postings(g))[j].Pos[k] })
			}
		}
	}
	for i := range f.Lengths {
		numberChanges(tell, fmt.Sprintf("%s: length %d", what, i), func(g *impl.Segment) *int { return &field(g).Lengths[i] })
	}
	for i, numbers := range f.Numbers {
		listChanges(tell, fmt.Sprintf("%s: numbers of %d", what, i), len(numbers), func(g *impl.Segment) *[]int { return &field(g).Numbers[i] }, 8)
		for j := range numbers {
			numberChanges(tell, fmt.Sprintf("%s: a number of %d", what, i), func(g *impl.Segment) *int { return &field(g).Numbers[i][j] })
		}
	}
}

func dictChanges(tell telling, what string, d impl.Dict, dict func(g *impl.Segment) *impl.Dict) {
	numberChanges(tell, what+": count", func(g *impl.Segment) *int { return &dict(g).Count })
	listChanges(tell, what+": states", len(d.States), func(g *impl.Segment) *[]impl.DictState { return &dict(g).States }, impl.DictState{})
	for i, state := range d.States {
		at := func(g *impl.Segment) *impl.DictState { return &dict(g).States[i] }
		tell(fmt.Sprintf("%s: state %d final or not", what, i), func(g *impl.Segment) { at(g).Final = !at(g).Final })
		listChanges(tell, fmt.Sprintf("%s: arcs of %d", what, i), len(state.Arcs), func(g *impl.Segment) *[]impl.DictArc { return &at(g).Arcs }, impl.DictArc{Label: 'z', To: 1})
		for j := range state.Arcs {
			name := fmt.Sprintf("%s: arc %d of %d", what, j, i)
			numberChanges(tell, name+": label", func(g *impl.Segment) *int { return &at(g).Arcs[j].Label })
			numberChanges(tell, name+": to", func(g *impl.Segment) *int { return &at(g).Arcs[j].To })
			numberChanges(tell, name+": ahead", func(g *impl.Segment) *int { return &at(g).Arcs[j].Ahead })
		}
	}
}

// Whatever part is another one: it is no segment, unless the documents tell it so.
func TestChangedSegments(t *testing.T) {
	s := schemaOf(textField("body", impl.Analyzer{Fold: true, Stem: true}), wordField("tag"), numberField("year"))
	docs := []impl.Doc{
		docWith("a", textsIn("body", "Cats, a cat", "boats"), numbersIn("year", 3, -4, 3)),
		docWith("b", textsIn("body", "boat"), textsIn("tag", "red", "redder", "red")),
		docWith("c", textsIn("tag", "red"), numbersIn("year", 5)),
	}
	g, _ := segmentOf(s, docs)
	wrong, right := 0, 0
	for c := range changes(g) {
		if !rightSegment(s, c.g) {
			wrong++
			wantNoSegment(t, s, c.g, c.what)
			continue
		}
		right++
		b, code := segmentBytesOf(s, c.g)
		wantSegmentBytes(t, s, c.g, b, code)
	}
	if wrong < 500 || right < 5 {
		t.Errorf("%d changes are no segment, %d are one", wrong, right)
	}
	wantSegment(t, s, docs, g, impl.OK)
}

// An empty list and none are the same, in every part.
func TestSegmentOfEmptyLists(t *testing.T) {
	s := shelf()
	g, code := impl.BuildSegment(s, shelfDocs())
	if code != impl.OK {
		t.Fatalf("code %d", code)
	}
	for _, empty := range []bool{true, false} {
		c := copyOf(g)
		for i := range c.Docs {
			for j := range c.Docs[i].Values {
				emptied(&c.Docs[i].Values[j].Texts, empty)
				emptied(&c.Docs[i].Values[j].Numbers, empty)
			}
			emptied(&c.Docs[i].Values, empty)
		}
		for i := range c.Fields {
			f := &c.Fields[i]
			for j := range f.Dict.States {
				emptied(&f.Dict.States[j].Arcs, empty)
			}
			for j := range f.Numbers {
				emptied(&f.Numbers[j], empty)
			}
			emptied(&f.Lists, empty)
			emptied(&f.Lengths, empty)
			emptied(&f.Numbers, empty)
		}
		want, _ := segmentBytesOf(s, g)
		wantSegmentBytes(t, s, c, want, impl.OK)
		wantPostings(t, s, c, "body", "a", []impl.Posting{{Doc: 1, Pos: []int{0, 2, 5}}}, impl.OK)
	}
}

func emptied[T any](list *[]T, empty bool) {
	if len(*list) > 0 {
		return
	}
	*list = nil
	if empty {
		*list = []T{}
	}
}

// What BuildSegment refuses is no segment, whichever code it has.
func TestSegmentOfRefusedDocs(t *testing.T) {
	s := small()
	g, _ := segmentOf(s, numbered(3))
	for _, docs := range [][]impl.Doc{numbered(257), {{}}, {docWith("x"), docWith("x")}, wordsIn(4097), make([]impl.Doc, 5000)} {
		other := g
		other.Docs = docs
		wantNoSegment(t, s, other, "refused documents")
		wantNoSegment(t, s, impl.Segment{Docs: docs}, "refused documents alone")
	}
	wantNoSegment(t, s, impl.Segment{}, "nothing")
	wantNoSegment(t, impl.Schema{}, impl.Segment{}, "nothing of nothing")
}
