package tests

import (
	"bytes"
	"fmt"
	"reflect"
	"slices"
	"testing"

	"loop.example/g00018/impl"
)

// What the document says of segments, told a second time: a list is what is found
// by going through all documents for one term, and bytes are right if they are
// those of the segment of the documents that stand in them.

func segmentOf(s impl.Schema, docs []impl.Doc) (impl.Segment, int) {
	if len(docs) > 256 {
		return impl.Segment{}, impl.ErrMany
	}
	ids := map[string]int{}
	for _, d := range docs {
		if !rightDoc(s, d) {
			return impl.Segment{}, impl.ErrBad
		}
		ids[d.Id]++
	}
	if !rightSchema(s) {
		return impl.Segment{}, impl.ErrBad
	}
	if len(ids) < len(docs) {
		return impl.Segment{}, impl.ErrExists
	}
	g := impl.Segment{Docs: docs}
	for _, def := range s.Fields {
		field := segmentNumbers(def.Name, docs)
		if def.Kind != impl.KNumber {
			field = segmentTerms(s, def.Name, docs)
		}
		if field.Dict.Count > 4096 || len(field.Dict.States) > 16384 {
			return impl.Segment{}, impl.ErrMany
		}
		g.Fields = append(g.Fields, field)
	}
	return g, impl.OK
}

func segmentNumbers(name string, docs []impl.Doc) impl.SegField {
	f := impl.SegField{Name: name, Dict: automatonOf(nil)}
	for _, d := range docs {
		var numbers []int
		for _, v := range d.Values {
			if v.Field == name {
				numbers = slices.Sorted(slices.Values(v.Numbers))
			}
		}
		f.Numbers = append(f.Numbers, numbers)
	}
	return f
}

func segmentTerms(s impl.Schema, name string, docs []impl.Doc) impl.SegField {
	f := impl.SegField{Name: name}
	places := map[string]map[int][]int{}
	var all []string
	for i, d := range docs {
		terms, _ := docTerms(s, d, name)
		f.Lengths = append(f.Lengths, len(terms))
		for _, term := range terms {
			if places[term.Text] == nil {
				places[term.Text] = map[int][]int{}
				all = append(all, term.Text)
			}
			places[term.Text][i] = append(places[term.Text][i], term.Pos)
		}
	}
	slices.Sort(all)
	f.Dict = automatonOf(all)
	for _, term := range all {
		var list []impl.Posting
		for i := range docs {
			if pos := places[term][i]; pos != nil {
				list = append(list, impl.Posting{Doc: i, Pos: slices.Sorted(slices.Values(pos))})
			}
		}
		f.Lists = append(f.Lists, list)
	}
	return f
}

// rightSegment tells whether g is a valid segment of s.
func rightSegment(s impl.Schema, g impl.Segment) bool {
	want, code := segmentOf(s, g.Docs)
	return code == impl.OK && sameSegment(g, want)
}

// segmentBody tells the bytes of a segment, valid or not, without their sum.
func segmentBody(s impl.Schema, g impl.Segment) []byte {
	b, _ := putOf(len(g.Docs))
	for _, d := range g.Docs {
		doc, _ := docBytesOf(d)
		b = append(putBehind(b, len(doc)), doc...)
	}
	for _, f := range g.Fields {
		if def, ok := fieldOf(s, f.Name); ok && def.Kind == impl.KNumber {
			continue
		}
		dict := summed(bodyOf(f.Dict))
		b = append(putBehind(b, len(dict)), dict...)
		for _, list := range f.Lists {
			b = append(b, listBytes(list)...)
		}
		b = append(b, mustPack(f.Lengths)...)
	}
	return b
}

func listBytes(list []impl.Posting) []byte {
	var docs, sizes []int
	var pos []byte
	for _, posting := range list {
		docs, sizes = append(docs, posting.Doc), append(sizes, len(posting.Pos))
		steps := slices.Clone(posting.Pos)
		for i := len(steps) - 1; i > 0; i-- {
			steps[i] -= steps[i-1]
		}
		pos = append(pos, mustPack(steps)...)
	}
	rising, _ := packRisingOf(docs)
	return slices.Concat(rising, mustPack(sizes), pos)
}

// mustPack packs numbers below 0, which no segment has, as nothing.
func mustPack(list []int) []byte {
	b, _ := packOf(list)
	return b
}

func segmentBytesOf(s impl.Schema, g impl.Segment) ([]byte, int) {
	if !rightSegment(s, g) {
		return nil, impl.ErrBad
	}
	b := summed(segmentBody(s, g))
	if len(b) > mostBytes {
		return nil, impl.ErrLong
	}
	return b, impl.OK
}

// docsAhead tells the documents that bytes begin with.
func docsAhead(b []byte) ([]impl.Doc, bool) {
	p := docPlace{b: b}
	var docs []impl.Doc
	count := p.number()
	for range min(count, 257) {
		text := p.text()
		d, code := docOf([]byte(text))
		if p.at < 0 || code != impl.OK {
			return nil, false
		}
		docs = append(docs, d)
	}
	return docs, p.at >= 0
}

func segmentIn(s impl.Schema, b []byte) (impl.Segment, int) {
	if len(b) > mostBytes {
		return impl.Segment{}, impl.ErrLong
	}
	if !rightSchema(s) {
		return impl.Segment{}, impl.ErrBad
	}
	docs, ok := docsAhead(b)
	if !ok {
		return impl.Segment{}, impl.ErrCorrupt
	}
	g, code := segmentOf(s, docs)
	if code != impl.OK || !bytes.Equal(summed(segmentBody(s, g)), b) {
		return impl.Segment{}, impl.ErrCorrupt
	}
	return g, impl.OK
}

func samePosting(p, q impl.Posting) bool {
	return p.Doc == q.Doc && slices.Equal(p.Pos, q.Pos)
}

func sameLists(a, b []impl.Posting) bool {
	return slices.EqualFunc(a, b, samePosting)
}

func sameSegment(a, b impl.Segment) bool {
	return slices.EqualFunc(a.Docs, b.Docs, sameDoc) && slices.EqualFunc(a.Fields, b.Fields, func(f, g impl.SegField) bool {
		return f.Name == g.Name && sameDict(f.Dict, g.Dict) && slices.EqualFunc(f.Lists, g.Lists, sameLists) &&
			slices.Equal(f.Lengths, g.Lengths) && slices.EqualFunc(f.Numbers, g.Numbers, slices.Equal)
	})
}

// copyOf tells a value of which no list is one of v.
func copyOf[T any](v T) T {
	return copyValue(reflect.ValueOf(v)).Interface().(T)
}

func copyValue(v reflect.Value) reflect.Value {
	switch v.Kind() {
	case reflect.Slice:
		if v.IsNil() {
			return v
		}
		c := reflect.MakeSlice(v.Type(), v.Len(), v.Len())
		for i := range v.Len() {
			c.Index(i).Set(copyValue(v.Index(i)))
		}
		return c
	case reflect.Struct:
		c := reflect.New(v.Type()).Elem()
		for i := range v.NumField() {
			c.Field(i).Set(copyValue(v.Field(i)))
		}
		return c
	}
	return v
}

func shortSegment(g impl.Segment) string {
	return cutOff(fmt.Sprintf("%+v", g))
}

func shortDocs(docs []impl.Doc) string {
	return cutOff(fmt.Sprintf("%+v", docs))
}

// firstPart tells where two segments differ first, as the whole is long.
func firstPart(g, want impl.Segment) string {
	if !slices.EqualFunc(g.Docs, want.Docs, sameDoc) || len(g.Fields) != len(want.Fields) {
		return fmt.Sprintf("%s, want %s", shortSegment(g), shortSegment(want))
	}
	for i, f := range g.Fields {
		if w := want.Fields[i]; cutOff(fmt.Sprint(f)) != cutOff(fmt.Sprint(w)) {
			return cutOff(fmt.Sprintf("%+v", f)) + ", want " + cutOff(fmt.Sprintf("%+v", w))
		}
	}
	return "far on"
}

func wantSegment(t *testing.T, s impl.Schema, docs []impl.Doc, want impl.Segment, wantCode int) {
	t.Helper()
	if g, code := impl.BuildSegment(s, docs); code != wantCode || !sameSegment(g, want) {
		t.Errorf("BuildSegment of %s: code %d, want %d; %s", shortDocs(docs), code, wantCode, firstPart(g, want))
	}
}

func wantPostings(t *testing.T, s impl.Schema, g impl.Segment, field, term string, want []impl.Posting, wantCode int) {
	t.Helper()
	if list, code := impl.Postings(s, g, field, term); code != wantCode || !sameLists(list, want) {
		t.Errorf("Postings of %s in %s of %s: %v, code %d, want %v, code %d", short(term), short(field), shortSegment(g), list, code, want, wantCode)
	}
}

func wantSegmentBytes(t *testing.T, s impl.Schema, g impl.Segment, want []byte, wantCode int) {
	t.Helper()
	if b, code := impl.SegmentBytes(s, g); code != wantCode || !bytes.Equal(b, want) {
		t.Errorf("SegmentBytes of %s: %s, code %d, want %s, code %d", shortSegment(g), shortBytes(b), code, shortBytes(want), wantCode)
	}
}

func wantReadSegment(t *testing.T, s impl.Schema, b []byte, want impl.Segment, wantCode int) {
	t.Helper()
	if g, code := impl.ReadSegment(s, b); code != wantCode || !sameSegment(g, want) {
		t.Errorf("ReadSegment of %s: code %d, want %d; %s", shortBytes(b), code, wantCode, firstPart(g, want))
	}
}

// wantSegmentBack holds a segment against the document's words, there and back.
func wantSegmentBack(t *testing.T, s impl.Schema, docs []impl.Doc) (impl.Segment, []byte) {
	t.Helper()
	g, code := segmentOf(s, docs)
	wantSegment(t, s, docs, g, code)
	if code != impl.OK {
		return g, nil
	}
	b, code := segmentBytesOf(s, g)
	wantSegmentBytes(t, s, g, b, code)
	if code == impl.OK {
		wantReadSegment(t, s, b, g, impl.OK)
	}
	return g, b
}

// wantNoSegment is for a segment that is not valid: every call must say so, and
// its bytes, if they tell it, are none.
func wantNoSegment(t *testing.T, s impl.Schema, g impl.Segment, what string) {
	t.Helper()
	if rightSegment(s, g) {
		t.Fatalf("the second telling takes %s: %s", what, shortSegment(g))
	}
	for _, field := range []string{"body", "tag", "year", "none", ""} {
		if list, code := impl.Postings(s, g, field, "cat"); code != impl.ErrBad || list != nil {
			t.Errorf("%s: Postings in %s: %v, code %d", what, field, list, code)
		}
	}
	if b, code := impl.SegmentBytes(s, g); code != impl.ErrBad || b != nil {
		t.Errorf("%s: SegmentBytes: %s, code %d", what, shortBytes(b), code)
	}
	b := summed(segmentBody(s, g))
	want, code := segmentIn(s, b)
	wantReadSegment(t, s, b, want, code)
}

// small is a schema with one field of each kind.
func small() impl.Schema {
	return schemaOf(numberField("n"), textField("t", impl.Analyzer{}), wordField("w"))
}

// shelfDocs are valid documents of shelf that have terms in common.
func shelfDocs() []impl.Doc {
	return []impl.Doc{
		book(),
		docWith("b-2", textsIn("body", "A boat, a boat and a cat"), textsIn("tag", "red"), textsIn("title", "Boats", "Cats"), numbersIn("year", 7, -7, 1900, 7, 0)),
		docWith("b-0"),
		docWith("a", textsIn("body", "the", ""), numbersIn("pages", greatestNumber, -greatestNumber), textsIn("topic", "red", "\u4e2d", "\u4e2d\u6587", "redder", "re")),
		docWith("z!", textsIn("tag", "blue", "The end"), textsIn("title", "the cats")),
	}
}

// numbered tells n documents with nothing but an id.
func numbered(n int) []impl.Doc {
	docs := make([]impl.Doc, n)
	for i := range docs {
		docs[i].Id = fmt.Sprintf("d%03d", i)
	}
	return docs
}
