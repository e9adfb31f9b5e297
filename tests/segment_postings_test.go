package tests

import (
	"slices"
	"strings"
	"testing"

	"loop.example/g00018/impl"
)

func TestPostingsWritten(t *testing.T) {
	s := shelf()
	g, _ := segmentOf(s, shelfDocs())
	for _, row := range []struct {
		field, term string
		want        []impl.Posting
	}{
		{"body", "boat", []impl.Posting{{Doc: 0, Pos: []int{205}}, {Doc: 1, Pos: []int{1, 3}}}},
		{"body", "cat", []impl.Posting{{Doc: 0, Pos: []int{1}}, {Doc: 1, Pos: []int{6}}}},
		{"body", "feline", []impl.Posting{{Doc: 0, Pos: []int{1}}}},
		{"body", "a", []impl.Posting{{Doc: 1, Pos: []int{0, 2, 5}}}},
		{"tag", "red", []impl.Posting{{Doc: 0, Pos: []int{0, 2}}, {Doc: 1, Pos: []int{0}}}},
		{"tag", "The end", []impl.Posting{{Doc: 0, Pos: []int{1}}, {Doc: 4, Pos: []int{1}}}},
		{"title", "Cats", []impl.Posting{{Doc: 0, Pos: []int{1}}, {Doc: 1, Pos: []int{101}}}},
		{"title", "cats", []impl.Posting{{Doc: 4, Pos: []int{1}}}},
		{"topic", "red", []impl.Posting{{Doc: 3, Pos: []int{0}}}},
		{"topic", "\u4e2d\u6587", []impl.Posting{{Doc: 0, Pos: []int{0}}, {Doc: 3, Pos: []int{2}}}},
	} {
		wantPostings(t, s, g, row.field, row.term, row.want, impl.OK)
	}
}

// Every term of every field, and texts about it that are none.
func TestPostingsOfAllTerms(t *testing.T) {
	s := shelf()
	g, _ := segmentOf(s, shelfDocs())
	others := []string{"", "c", "Boat", "boats", "the", "The", "\x00", "\xff", "red\x00", "1900", strings.Repeat("a", impl.MaxTerm), strings.Repeat("a", impl.MaxTerm+1), strings.Repeat("a", impl.MaxText)}
	for i, def := range s.Fields {
		if def.Kind == impl.KNumber {
			continue
		}
		lists := map[string][]impl.Posting{}
		for n, list := range g.Fields[i].Lists {
			term, _ := impl.DictTerm(g.Fields[i].Dict, n)
			lists[term] = list
			others = append(others, term, term+"s", term[:len(term)-1], strings.ToUpper(term))
		}
		for _, term := range others {
			wantPostings(t, s, g, def.Name, term, lists[term], impl.OK)
		}
	}
}

func TestPostingsOfNoDocs(t *testing.T) {
	s := shelf()
	g, _ := segmentOf(s, nil)
	for _, term := range []string{"", "a", "red"} {
		wantPostings(t, s, g, "body", term, nil, impl.OK)
		wantPostings(t, s, g, "tag", term, nil, impl.OK)
		wantPostings(t, s, g, "year", term, nil, impl.ErrKind)
	}
}

func TestPostingsFields(t *testing.T) {
	s := shelf()
	g, _ := segmentOf(s, shelfDocs())
	for _, term := range []string{"", "cat", "7", "1900"} {
		for _, field := range []string{"", "none", "Body", "bod", "bodyy", "body ", strings.Repeat("b", impl.MaxText)} {
			wantPostings(t, s, g, field, term, nil, impl.ErrField)
		}
		for _, field := range []string{"pages", "year"} {
			wantPostings(t, s, g, field, term, nil, impl.ErrKind)
		}
	}
}

// The first fault in the chapter's order gives the code.
func TestPostingsFaultsInOrder(t *testing.T) {
	long := strings.Repeat("a", impl.MaxText+1)
	right, _ := segmentOf(shelf(), shelfDocs())
	wrong := copyOf(right)
	wrong.Fields[0].Lengths[0]++
	wrong.Docs[0].Id = "" // which no segment can have
	for _, s := range []impl.Schema{shelf(), {}} {
		for _, g := range []impl.Segment{right, wrong, {}} {
			for _, field := range []string{"body", "year", "none", "", long} {
				for _, term := range []string{"a", "", "none", "\xff", long} {
					var want []impl.Posting
					code := impl.OK
					def, known := fieldOf(s, field)
					switch {
					case len(field) > 65536, len(term) > 65536:
						code = impl.ErrLong
					case len(s.Fields) == 0, !sameSegment(g, right):
						code = impl.ErrBad
					case !known:
						code = impl.ErrField
					case def.Kind == impl.KNumber:
						code = impl.ErrKind
					case term == "a":
						want = []impl.Posting{{Doc: 1, Pos: []int{0, 2, 5}}}
					}
					wantPostings(t, s, g, field, term, want, code)
				}
			}
		}
	}
}

// A segment is one of its own schema, not of another one.
func TestSegmentOfAnotherSchema(t *testing.T) {
	s := shelf()
	g, _ := segmentOf(s, shelfDocs())
	stems := copyOf(s)
	stems.Fields[0].Analyzer.Stem = false
	fewer := copyOf(s)
	fewer.Fields = fewer.Fields[:5]
	more := copyOf(s)
	more.Fields = append(more.Fields, wordField("zone"))
	kind := copyOf(s)
	kind.Fields[2].Kind = impl.KText
	name := copyOf(s)
	name.Fields[5].Name = "years"
	broken := copyOf(s)
	slices.Reverse(broken.Fields)
	for i, other := range []impl.Schema{stems, fewer, more, kind, name, broken, {}} {
		wantNoSegment(t, other, g, "another schema")
		if i < 5 && !rightSchema(other) {
			t.Fatalf("schema %d is no schema", i)
		}
	}
	// Where a schema changes nothing that these documents have, the segment is its own too.
	same := copyOf(s)
	same.Fields[0].Analyzer.Stops = append(same.Fields[0].Analyzer.Stops, "elephant")
	wantPostings(t, same, g, "body", "feline", []impl.Posting{{Doc: 0, Pos: []int{1}}}, impl.OK)
}
