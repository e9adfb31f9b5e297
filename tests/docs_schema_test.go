package tests

import (
	"math"
	"slices"
	"strings"
	"testing"

	"loop.example/g00018/impl"
)

func TestSchemaLimits(t *testing.T) {
	got := [5]int{impl.MaxFields, impl.MaxValues, impl.MaxName, impl.MaxBody, impl.MaxNumber}
	if got != [5]int{16, 16, 30, 4000, greatestNumber} {
		t.Errorf("the limits are %v", got)
	}
	if kinds := [3]int{impl.KText, impl.KWord, impl.KNumber}; kinds != [3]int{1, 2, 3} {
		t.Errorf("the kinds are %v", kinds)
	}
}

func TestSchemaWritten(t *testing.T) {
	wantSchema(t, shelf(), true)
	for _, kind := range []int{impl.KText, impl.KWord, impl.KNumber} {
		wantSchema(t, schemaOf(impl.FieldDef{Name: "a", Kind: kind}), true)
		wantSchema(t, schemaOf(impl.FieldDef{Name: "a", Kind: kind}, impl.FieldDef{Name: "b", Kind: kind}), true)
	}
}

// manyFields tells a schema of n fields whose kinds go round.
func manyFields(n int) impl.Schema {
	s := impl.Schema{}
	for i := range n {
		s.Fields = append(s.Fields, impl.FieldDef{Name: "f" + string(rune('a'+i/26)) + string(rune('a'+i%26)), Kind: 1 + i%3})
	}
	return s
}

func TestSchemaCounts(t *testing.T) {
	wantSchema(t, impl.Schema{}, false)
	wantSchema(t, impl.Schema{Fields: []impl.FieldDef{}}, false)
	for n := range 20 {
		wantSchema(t, manyFields(n), n >= 1 && n <= impl.MaxFields)
	}
	wantSchema(t, manyFields(500), false)
	wantSchema(t, impl.Schema{Fields: make([]impl.FieldDef, impl.MaxList+1)}, false)
}

func TestSchemaNameSizes(t *testing.T) {
	for size := range impl.MaxName + 5 {
		name := strings.Repeat("a", size)
		for kind := 1; kind <= 3; kind++ {
			wantSchema(t, schemaOf(impl.FieldDef{Name: name, Kind: kind}), size >= 1 && size <= impl.MaxName)
			wantSchema(t, schemaOf(impl.FieldDef{Name: name, Kind: kind}, wordField("b")), size >= 1 && size <= impl.MaxName)
		}
	}
	wantSchema(t, schemaOf(wordField(strings.Repeat("a", impl.MaxText+1))), false)
	wantSchema(t, schemaOf(wordField("z"), wordField("")), false)
}

// Every byte stands at the beginning of a name, within it and at its end.
func TestSchemaNameBytes(t *testing.T) {
	for sign := range 256 {
		one := string([]byte{byte(sign)})
		letter := sign >= 'a' && sign <= 'z'
		other := letter || sign >= '0' && sign <= '9' || sign == '_'
		for kind := 1; kind <= 3; kind++ {
			wantSchema(t, schemaOf(impl.FieldDef{Name: one, Kind: kind}), letter)
			wantSchema(t, schemaOf(impl.FieldDef{Name: one + "b", Kind: kind}), letter)
			wantSchema(t, schemaOf(impl.FieldDef{Name: "b" + one, Kind: kind}), other)
			wantSchema(t, schemaOf(impl.FieldDef{Name: "b" + one + "b", Kind: kind}), other)
			wantSchema(t, schemaOf(impl.FieldDef{Name: strings.Repeat("b", 29) + one, Kind: kind}), other)
		}
	}
	for _, name := range []string{"\u00e9", "a\u00e9", "a b", "a.b", "A", "aB", "1", "1a", "_", "_a", "a-", "a\n", "\na"} {
		wantSchema(t, schemaOf(wordField(name)), false)
	}
}

func TestSchemaNameOrder(t *testing.T) {
	names := []string{"a", "a0", "a1", "a9", "a_", "aa", "ab", "b", "b0", "z", "zz"}
	for i, one := range names {
		for k, two := range names {
			wantSchema(t, schemaOf(wordField(one), numberField(two)), i < k)
			for l, three := range names {
				wantSchema(t, schemaOf(wordField(one), wordField(two), textField(three, impl.Analyzer{})), i < k && k < l)
			}
		}
	}
	last := manyFields(16)
	last.Fields[15].Name = last.Fields[14].Name
	wantSchema(t, last, false)
	last.Fields[15].Name = "a"
	wantSchema(t, last, false)
}

func TestSchemaKinds(t *testing.T) {
	for _, kind := range []int{math.MinInt, -3, -2, -1, 0, 1, 2, 3, 4, 5, 256 + 1, 1<<32 + 1, math.MaxInt} {
		for place := range 3 {
			s := schemaOf(wordField("a"), wordField("b"), wordField("c"))
			s.Fields[place].Kind = kind
			wantSchema(t, s, kind >= 1 && kind <= 3)
		}
	}
}

func TestSchemaAnalyzers(t *testing.T) {
	long := slices.Repeat([]string{"a"}, impl.MaxStops+1)
	for _, c := range []struct {
		a           impl.Analyzer
		valid, zero bool
	}{
		{impl.Analyzer{}, true, true},
		{impl.Analyzer{Stops: []string{}, Synonyms: []impl.Synonym{}}, true, true},
		{impl.Analyzer{Stops: make([]string, 0, 9)}, true, true},
		{impl.Analyzer{Fold: true}, true, false},
		{impl.Analyzer{Stem: true}, true, false},
		{impl.Analyzer{Phone: true}, true, false},
		{impl.Analyzer{Stops: []string{"a"}}, true, false},
		{impl.Analyzer{Synonyms: []impl.Synonym{{From: "a", To: "b"}}}, true, false},
		{impl.Analyzer{Lo: 1, Hi: 1}, true, false},
		{impl.Analyzer{Lo: 1, Hi: 8}, true, false},
		{impl.Analyzer{Stops: long[1:]}, true, false},
		{impl.Analyzer{Stops: long}, false, false},
		{impl.Analyzer{Stops: []string{""}}, false, false},
		{impl.Analyzer{Synonyms: []impl.Synonym{{}}}, false, false},
		{impl.Analyzer{Lo: 1}, false, false},
		{impl.Analyzer{Hi: 1}, false, false},
		{impl.Analyzer{Lo: -1}, false, false},
		{impl.Analyzer{Hi: -1}, false, false},
		{impl.Analyzer{Lo: 2, Hi: 1}, false, false},
		{impl.Analyzer{Lo: 1, Hi: 9}, false, false},
		{impl.Analyzer{Lo: math.MinInt, Hi: math.MaxInt}, false, false},
	} {
		for place := range 3 {
			for kind := range 5 {
				s := schemaOf(textField("a", impl.Analyzer{Fold: true}), wordField("b"), numberField("c"))
				s.Fields[place].Kind, s.Fields[place].Analyzer = kind, c.a
				wantSchema(t, s, kind == impl.KText && c.valid || (kind == impl.KWord || kind == impl.KNumber) && c.zero)
			}
		}
	}
}
