package tests

import (
	"bytes"
	"fmt"
	"regexp"
	"slices"
	"strings"
	"testing"

	"loop.example/g00018/impl"
)

// What the document says of schemas and documents, told a second time: names and
// ids by patterns, terms by the second telling of analysers, bytes read from
// places and right if the document that is read gives them again.

var (
	nameForm = regexp.MustCompile(`^[a-z][a-z0-9_]{0,29}$`)
	idForm   = regexp.MustCompile(`^[!-~]{1,30}$`)
)

const greatestNumber = 1000 * 1000 * 1000 * 1000

func rightSchema(s impl.Schema) bool {
	if len(s.Fields) == 0 || len(s.Fields) > 16 {
		return false
	}
	ahead := ""
	for _, field := range s.Fields {
		if field.Name <= ahead || !nameForm.MatchString(field.Name) || field.Kind < 1 || field.Kind > 3 || !validOf(field.Analyzer) {
			return false
		}
		ahead = field.Name
		if field.Kind != impl.KText && !emptyAnalyzer(field.Analyzer) {
			return false
		}
	}
	return true
}

func emptyAnalyzer(a impl.Analyzer) bool {
	return fmt.Sprint(a) == fmt.Sprint(impl.Analyzer{})
}

func fieldOf(s impl.Schema, name string) (impl.FieldDef, bool) {
	for _, field := range s.Fields {
		if field.Name == name {
			return field, true
		}
	}
	return impl.FieldDef{}, false
}

func rightDoc(s impl.Schema, d impl.Doc) bool {
	if !rightSchema(s) || !idForm.MatchString(d.Id) {
		return false
	}
	all := ""
	for i, v := range d.Values {
		field, ok := fieldOf(s, v.Field)
		if !ok || i > 0 && d.Values[i-1].Field >= v.Field || !rightValue(field, v) {
			return false
		}
		all += strings.Join(v.Texts, "")
	}
	return len(all) <= 4000
}

func rightValue(field impl.FieldDef, v impl.Value) bool {
	if field.Kind == impl.KNumber {
		beyond := func(n int) bool { return n < -greatestNumber || n > greatestNumber }
		return len(v.Texts) == 0 && len(v.Numbers) > 0 && len(v.Numbers) < 17 && !slices.ContainsFunc(v.Numbers, beyond)
	}
	for _, text := range v.Texts {
		if _, ok := formOf(text); !ok || field.Kind == impl.KWord && (text == "" || len(text) > 64) {
			return false
		}
		if _, code := termsOf(field.Analyzer, text); code != impl.OK && field.Kind == impl.KText {
			return false
		}
	}
	return len(v.Numbers) == 0 && len(v.Texts) > 0 && len(v.Texts) < 17
}

func docTerms(s impl.Schema, d impl.Doc, name string) ([]impl.Token, int) {
	if len(name) > 65536 {
		return nil, impl.ErrLong
	}
	if !rightDoc(s, d) {
		return nil, impl.ErrBad
	}
	field, ok := fieldOf(s, name)
	if !ok {
		return nil, impl.ErrField
	}
	if field.Kind == impl.KNumber {
		return nil, impl.ErrKind
	}
	var list []impl.Token
	for _, v := range d.Values {
		for i, text := range v.Texts {
			if v.Field == name && field.Kind == impl.KWord {
				list = append(list, impl.Token{Text: text, Pos: i, From: 0, To: len(text)})
			} else if v.Field == name {
				list = append(list, placedTerms(field.Analyzer, v.Texts[:i], text)...)
			}
		}
	}
	return list, impl.OK
}

// placedTerms tells the terms of a text that stands behind others.
func placedTerms(a impl.Analyzer, ahead []string, text string) []impl.Token {
	base := 100 * len(ahead)
	for _, other := range ahead {
		words, _ := impl.Break(other)
		base += len(words)
	}
	list, _ := termsOf(a, text)
	for i := range list {
		list[i].Pos += base
	}
	return list
}

func docBytesOf(d impl.Doc) ([]byte, int) {
	lengths := []int{len(d.Id)}
	counts := []int{len(d.Values)}
	var signs []int
	for _, v := range d.Values {
		lengths = append(lengths, len(v.Field))
		counts = append(counts, len(v.Texts), len(v.Numbers))
		signs = append(signs, v.Numbers...)
		for _, text := range v.Texts {
			lengths = append(lengths, len(text))
		}
	}
	signs = append(signs, 0)
	if slices.Max(lengths) > 65536 || slices.Max(counts) > 4096 || slices.Min(signs) < -greatestNumber || slices.Max(signs) > greatestNumber {
		return nil, impl.ErrRange
	}
	b := putBehind(textBehind(nil, d.Id), len(d.Values))
	for _, v := range d.Values {
		b = putBehind(textBehind(b, v.Field), len(v.Texts))
		for _, text := range v.Texts {
			b = textBehind(b, text)
		}
		b = putBehind(b, len(v.Numbers))
		for _, n := range v.Numbers {
			b = numberBehind(b, n)
		}
	}
	return b, impl.OK
}

func textBehind(b []byte, text string) []byte {
	return append(putBehind(b, len(text)), text...)
}

func numberBehind(b []byte, n int) []byte {
	if n < 0 {
		return putBehind(b, -2*n-1)
	}
	return putBehind(b, 2*n)
}

// A docPlace goes through the bytes of a document; at is -1 once they are wrong.
type docPlace struct {
	b  []byte
	at int
}

func (p *docPlace) number() int {
	if p.at < 0 {
		return 0
	}
	v, next, code := getOf(p.b, p.at)
	p.at = next
	if code != impl.OK {
		p.at = -1
	}
	return v
}

func (p *docPlace) text() string {
	size := p.number()
	if p.at < 0 || size > len(p.b)-p.at {
		p.at = -1
		return ""
	}
	p.at += size
	return string(p.b[p.at-size : p.at])
}

// times does something for each element of a list, as long as the bytes go on.
func (p *docPlace) times(do func()) {
	for n := p.number(); n > 0 && p.at >= 0; n-- {
		do()
	}
}

func docOf(b []byte) (impl.Doc, int) {
	if len(b) > mostBytes {
		return impl.Doc{}, impl.ErrLong
	}
	p := docPlace{b: b}
	d := impl.Doc{Id: p.text()}
	p.times(func() {
		v := impl.Value{Field: p.text()}
		p.times(func() { v.Texts = append(v.Texts, p.text()) })
		p.times(func() {
			n := p.number()
			v.Numbers = append(v.Numbers, [2]int{n / 2, -n/2 - 1}[n%2])
		})
		d.Values = append(d.Values, v)
	})
	if again, code := docBytesOf(d); p.at < 0 || code != impl.OK || !bytes.Equal(again, b) {
		return impl.Doc{}, impl.ErrCorrupt
	}
	return d, impl.OK
}

func sameDoc(a, b impl.Doc) bool {
	return a.Id == b.Id && slices.EqualFunc(a.Values, b.Values, func(v, w impl.Value) bool {
		return v.Field == w.Field && slices.Equal(v.Texts, w.Texts) && slices.Equal(v.Numbers, w.Numbers)
	})
}

func copyDoc(d impl.Doc) impl.Doc {
	d.Values = slices.Clone(d.Values)
	for i := range d.Values {
		d.Values[i].Texts = slices.Clone(d.Values[i].Texts)
		d.Values[i].Numbers = slices.Clone(d.Values[i].Numbers)
	}
	return d
}

func shortDoc(d impl.Doc) string {
	return cutOff(fmt.Sprintf("%#v", d))
}

func shortSchema(s impl.Schema) string {
	return cutOff(fmt.Sprintf("%#v", s))
}

func shortTokens(list []impl.Token) string {
	return cutOff(fmt.Sprintf("%+v", list))
}

// cutOff keeps a failure's line readable.
func cutOff(text string) string {
	text = strings.ReplaceAll(text, "impl.", "")
	if len(text) <= 300 {
		return text
	}
	return fmt.Sprintf("%s.. (%d bytes)", text[:300], len(text))
}

func textField(name string, a impl.Analyzer) impl.FieldDef {
	return impl.FieldDef{Name: name, Kind: impl.KText, Analyzer: a}
}

func wordField(name string) impl.FieldDef {
	return impl.FieldDef{Name: name, Kind: impl.KWord}
}

func numberField(name string) impl.FieldDef {
	return impl.FieldDef{Name: name, Kind: impl.KNumber}
}

func schemaOf(fields ...impl.FieldDef) impl.Schema {
	return impl.Schema{Fields: fields}
}

func docWith(id string, values ...impl.Value) impl.Doc {
	return impl.Doc{Id: id, Values: values}
}

func textsIn(field string, texts ...string) impl.Value {
	return impl.Value{Field: field, Texts: texts}
}

func numbersIn(field string, numbers ...int) impl.Value {
	return impl.Value{Field: field, Numbers: numbers}
}

// shelf is a schema with two fields of each kind.
func shelf() impl.Schema {
	return schemaOf(
		textField("body", impl.Analyzer{Fold: true, Stem: true, Stops: []string{"the"}, Synonyms: []impl.Synonym{{From: "cats", To: "felines"}}}),
		numberField("pages"), wordField("tag"), textField("title", impl.Analyzer{}), wordField("topic"), numberField("year"),
	)
}

// book is a valid document of shelf with several values of each field.
func book() impl.Doc {
	return docWith("b-1",
		textsIn("body", "The Cats, running", "", "of the boats"), numbersIn("pages", 3, -4, 0, 3), textsIn("tag", "red", "The end", "red"),
		textsIn("title", "The Cats"), textsIn("topic", "\u4e2d\u6587"), numbersIn("year", -1900),
	)
}

func wantSchema(t *testing.T, s impl.Schema, want bool) {
	t.Helper()
	if rightSchema(s) != want {
		t.Fatalf("the second telling differs on %s", shortSchema(s))
	}
	if impl.SchemaOK(s) != want {
		t.Errorf("SchemaOK of %s is not %v", shortSchema(s), want)
	}
}

// wantDoc asks DocOK, and Terms of a field, which has a code if the document isn't valid.
func wantDoc(t *testing.T, s impl.Schema, d impl.Doc, want bool) {
	t.Helper()
	if rightDoc(s, d) != want {
		t.Fatalf("the second telling differs on %s by %s", shortDoc(d), shortSchema(s))
	}
	if impl.DocOK(s, d) != want {
		t.Errorf("DocOK of %s by %s is not %v", shortDoc(d), shortSchema(s), want)
	}
	if !want {
		wantDocTerms(t, s, d, "body", nil, impl.ErrBad)
	}
}

func wantDocTerms(t *testing.T, s impl.Schema, d impl.Doc, field string, want []impl.Token, wantCode int) {
	t.Helper()
	list, code := impl.Terms(s, d, field)
	if code != wantCode || !slices.Equal(list, want) {
		t.Errorf("Terms of %s in %s: %s, code %d, want %s, code %d", short(field), shortDoc(d), shortTokens(list), code, shortTokens(want), wantCode)
	}
}

// wantSameTerms holds the terms of a field against the document's words.
func wantSameTerms(t *testing.T, s impl.Schema, d impl.Doc, field string) {
	t.Helper()
	want, wantCode := docTerms(s, d, field)
	wantDocTerms(t, s, d, field, want, wantCode)
}

func wantDocBytes(t *testing.T, d impl.Doc, want []byte, wantCode int) {
	t.Helper()
	if b, code := impl.DocBytes(d); code != wantCode || !bytes.Equal(b, want) {
		t.Errorf("DocBytes of %s: %s, code %d, want %s, code %d", shortDoc(d), shortBytes(b), code, shortBytes(want), wantCode)
	}
}

func wantReadDoc(t *testing.T, b []byte, want impl.Doc, wantCode int) {
	t.Helper()
	if d, code := impl.ReadDoc(b); code != wantCode || !sameDoc(d, want) {
		t.Errorf("ReadDoc of %s: %s, code %d, want %s, code %d", shortBytes(b), shortDoc(d), code, shortDoc(want), wantCode)
	}
}

// wantDocBack holds a document against the document's words, there and back.
func wantDocBack(t *testing.T, d impl.Doc) []byte {
	t.Helper()
	b, code := docBytesOf(d)
	wantDocBytes(t, d, b, code)
	if code == impl.OK {
		wantReadDoc(t, b, d, impl.OK)
	}
	return b
}

func wantNoDoc(t *testing.T, b []byte) {
	t.Helper()
	wantReadDoc(t, b, impl.Doc{}, impl.ErrCorrupt)
}
