package tests

import (
	"bytes"
	"reflect"
	"slices"
	"strings"
	"testing"

	"loop.example/g00018/impl"
)

// withRoom tells a copy of a list that has other elements behind its end.
func withRoom[T any](list []T, other T) []T {
	return append(slices.Clone(list), other, other)[:len(list)]
}

// wholeList tells a list together with what stands behind its end.
func wholeList[T any](list []T) []T {
	return slices.Clone(list[:cap(list)])
}

func roomySchema(s impl.Schema) impl.Schema {
	s.Fields = withRoom(s.Fields, wordField("behind"))
	for i := range s.Fields {
		a := &s.Fields[i].Analyzer
		a.Stops, a.Synonyms = withRoom(a.Stops, "behind"), withRoom(a.Synonyms, impl.Synonym{From: "behind", To: "it"})
	}
	return s
}

func wholeSchema(s impl.Schema) impl.Schema {
	s.Fields = wholeList(s.Fields)
	for i := range s.Fields {
		a := &s.Fields[i].Analyzer
		a.Stops, a.Synonyms = wholeList(a.Stops), wholeList(a.Synonyms)
	}
	return s
}

func roomyDoc(d impl.Doc) impl.Doc {
	d.Values = withRoom(d.Values, textsIn("behind", "it"))
	for i := range d.Values {
		d.Values[i].Texts, d.Values[i].Numbers = withRoom(d.Values[i].Texts, "behind"), withRoom(d.Values[i].Numbers, -7)
	}
	return d
}

func wholeDoc(d impl.Doc) impl.Doc {
	d.Values = wholeList(d.Values)
	for i := range d.Values {
		d.Values[i].Texts, d.Values[i].Numbers = wholeList(d.Values[i].Texts), wholeList(d.Values[i].Numbers)
	}
	return d
}

func TestDocCallsLeaveTheirArguments(t *testing.T) {
	broken := shelf()
	broken.Fields[0].Analyzer.Stops = []string{""}
	for _, s := range []impl.Schema{{}, shelf(), broken, manyFields(16), manyFields(17)} {
		for _, d := range append(sampleDocs(), sizedDoc(impl.MaxBytes)) {
			s, d := roomySchema(s), roomyDoc(d)
			schemaBefore, docBefore := wholeSchema(s), wholeDoc(d)
			impl.SchemaOK(s)
			impl.DocOK(s, d)
			for _, field := range []string{"body", "tag", "year", "none", ""} {
				impl.Terms(s, d, field)
			}
			impl.DocBytes(d)
			if !reflect.DeepEqual(wholeSchema(s), schemaBefore) {
				t.Errorf("a call wrote into %s", shortSchema(s))
			}
			if !reflect.DeepEqual(wholeDoc(d), docBefore) {
				t.Errorf("a call wrote into %s", shortDoc(d))
			}
		}
	}
}

func TestReadDocLeavesItsBytes(t *testing.T) {
	for _, d := range sampleDocs() {
		b, _ := docBytesOf(d)
		for size := range len(b) + 1 {
			whole := append(slices.Clone(b), 1, 2, 3)
			impl.ReadDoc(whole[:size])
			if !bytes.Equal(whole, append(slices.Clone(b), 1, 2, 3)) {
				t.Errorf("ReadDoc wrote into %s", shortBytes(b))
			}
		}
	}
}

func TestTermsAnswerNewMemory(t *testing.T) {
	s, d := shelf(), book()
	for _, field := range []string{"body", "tag", "title", "topic"} {
		first, _ := impl.Terms(s, d, field)
		second, _ := impl.Terms(s, d, field)
		for _, term := range first {
			for _, value := range d.Values {
				if slices.ContainsFunc(value.Texts, func(text string) bool { return shares(term.Text, text) }) {
					t.Errorf("Terms of %s: %q lies in the document", field, term.Text)
				}
			}
			for _, def := range s.Fields {
				if inSynonyms(term.Text, def.Analyzer.Synonyms) {
					t.Errorf("Terms of %s: %q lies in the schema", field, term.Text)
				}
			}
		}
		wantApart(t, first, second, impl.Token{Text: "other", Pos: -1}, "Terms of "+field)
	}
}

// Every list of a document that was read is written over, also behind its end:
// its other lists, and those of a second answer, must stay.
func TestReadDocAnswersNewMemory(t *testing.T) {
	for _, d := range sampleDocs() {
		b, _ := docBytesOf(d)
		first, _ := impl.ReadDoc(b)
		second, _ := impl.ReadDoc(b)
		for i := range b {
			b[i] ^= 255
		}
		if !sameDoc(first, d) {
			t.Errorf("ReadDoc: %s lies in its bytes", shortDoc(d))
		}
		want := copyDoc(d)
		for i := range want.Values {
			overwrite(first.Values[i].Texts, "other")
			want.Values[i].Texts = slices.Repeat([]string{"other"}, len(want.Values[i].Texts))
			if !sameDoc(first, want) {
				t.Errorf("lists of one answer share memory: %s", shortDoc(d))
			}
			overwrite(first.Values[i].Numbers, -77)
			want.Values[i].Numbers = slices.Repeat([]int{-77}, len(want.Values[i].Numbers))
			if !sameDoc(first, want) {
				t.Errorf("lists of one answer share memory: %s", shortDoc(d))
			}
		}
		overwrite(first.Values, impl.Value{Field: "other"})
		if !sameDoc(second, d) {
			t.Errorf("two answers of ReadDoc share memory: %s", shortDoc(d))
		}
	}
}

func overwrite[T any](list []T, other T) {
	list = list[:cap(list)]
	for i := range list {
		list[i] = other
	}
}

func TestDocBytesAnswerNewMemory(t *testing.T) {
	for _, d := range sampleDocs() {
		first, _ := impl.DocBytes(d)
		second, _ := impl.DocBytes(d)
		wantApart(t, first, second, 77, "DocBytes of "+shortDoc(d))
		wantDocBytes(t, d, second, impl.OK)
	}
}

// The same text many times over costs no more than its size.
func TestDocCallsEndWithGreatDocs(t *testing.T) {
	text := strings.Repeat("a ", impl.MaxText/2)
	d := docWith("i", slices.Repeat([]impl.Value{textsIn("body", slices.Repeat([]string{text}, 50)...)}, 10)...)
	wantDoc(t, shelf(), d, false)
	b, code := impl.DocBytes(d)
	if code != impl.OK || len(b) < 10*50*impl.MaxText {
		t.Errorf("DocBytes: %d bytes, code %d", len(b), code)
	}
	wantReadDoc(t, b, impl.Doc{}, impl.ErrLong)
}
