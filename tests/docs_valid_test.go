package tests

import (
	"math"
	"slices"
	"strings"
	"testing"

	"loop.example/g00018/impl"
)

func TestDocWritten(t *testing.T) {
	wantDoc(t, shelf(), book(), true)
	wantDoc(t, shelf(), docWith("a"), true)
	wantDoc(t, shelf(), impl.Doc{Id: "a", Values: []impl.Value{}}, true)
	wantDoc(t, shelf(), impl.Doc{}, false)
	for i := range book().Values {
		d := book()
		wantDoc(t, shelf(), docWith("x", d.Values[i]), true)
		wantDoc(t, shelf(), docWith("x", slices.Delete(d.Values, i, i+1)...), true)
	}
}

func TestDocOfWrongSchema(t *testing.T) {
	broken := shelf()
	broken.Fields[1].Kind = 4
	for _, s := range []impl.Schema{{}, broken, manyFields(17), schemaOf(wordField("b"), wordField("a")), schemaOf(wordField("tag"), wordField("tag")), schemaOf(wordField(""))} {
		wantDoc(t, s, docWith("a"), false)
		wantDoc(t, s, docWith("a", textsIn("tag", "red")), false)
		wantDoc(t, s, book(), false)
	}
	// The document has nothing in the field that makes the schema wrong.
	s := schemaOf(wordField("tag"), textField("title", impl.Analyzer{Lo: 1}))
	wantDoc(t, s, docWith("a", textsIn("tag", "red")), false)
}

func TestDocIdSizes(t *testing.T) {
	for size := range impl.MaxName + 5 {
		wantDoc(t, shelf(), docWith(strings.Repeat("7", size)), size >= 1 && size <= impl.MaxName)
	}
	wantDoc(t, shelf(), docWith(strings.Repeat("x", impl.MaxText+1)), false)
}

func TestDocIdBytes(t *testing.T) {
	for sign := range 256 {
		one := string([]byte{byte(sign)})
		want := sign >= 33 && sign <= 126
		wantDoc(t, shelf(), docWith(one), want)
		wantDoc(t, shelf(), docWith(one+"a"), want)
		wantDoc(t, shelf(), docWith("a"+one), want)
		wantDoc(t, shelf(), docWith("a"+one+"a"), want)
		wantDoc(t, shelf(), docWith(strings.Repeat("a", 29)+one), want)
	}
	wantDoc(t, shelf(), docWith("\u00e9"), false)
	wantDoc(t, shelf(), docWith("a b"), false)
}

func TestDocFieldOrder(t *testing.T) {
	s := schemaOf(wordField("a"), textField("b", impl.Analyzer{}), numberField("c"), wordField("d"))
	values := map[string]impl.Value{"a": textsIn("a", "x"), "b": textsIn("b", "x"), "c": numbersIn("c", 7), "d": textsIn("d", "x"), "": textsIn("", "x"), "aa": textsIn("aa", "x"), "e": textsIn("e", "x"), "A": textsIn("A", "x")}
	names := []string{"", "A", "a", "aa", "b", "c", "d", "e"}
	known := []string{"a", "b", "c", "d"}
	for _, one := range names {
		wantDoc(t, s, docWith("i", values[one]), slices.Contains(known, one))
		for _, two := range names {
			right := slices.Contains(known, one) && slices.Contains(known, two) && one < two
			wantDoc(t, s, docWith("i", values[one], values[two]), right)
			for _, three := range names {
				wantDoc(t, s, docWith("i", values[one], values[two], values[three]), right && slices.Contains(known, three) && two < three)
			}
		}
	}
	wantDoc(t, s, docWith("i", textsIn(strings.Repeat("a", impl.MaxText+1), "x")), false)
	wantDoc(t, s, docWith("i", slices.Repeat([]impl.Value{values["a"]}, impl.MaxList+1)...), false)
}

// In each field stand texts, numbers, both and none.
func TestDocKinds(t *testing.T) {
	fields := []impl.FieldDef{textField("f", impl.Analyzer{Fold: true}), wordField("f"), numberField("f")}
	texts := [][]string{nil, {}, {"x"}, {"x", "y"}}
	numbers := [][]int{nil, {}, {1}, {1, 2}}
	for _, field := range fields {
		s := schemaOf(wordField("a"), field, wordField("g"))
		for _, t1 := range texts {
			for _, n1 := range numbers {
				want := len(t1) > 0 && len(n1) == 0
				if field.Kind == impl.KNumber {
					want = len(n1) > 0 && len(t1) == 0
				}
				v := impl.Value{Field: "f", Texts: t1, Numbers: n1}
				wantDoc(t, s, docWith("i", v), want)
				wantDoc(t, s, docWith("i", textsIn("a", "x"), v), want)
				wantDoc(t, s, docWith("i", v, textsIn("g", "x")), want)
			}
		}
	}
}

func TestDocValueCounts(t *testing.T) {
	for n := range impl.MaxValues + 4 {
		want := n >= 1 && n <= impl.MaxValues
		wantDoc(t, shelf(), docWith("i", textsIn("body", slices.Repeat([]string{"x"}, n)...)), want)
		wantDoc(t, shelf(), docWith("i", textsIn("body", make([]string, n)...)), want)
		wantDoc(t, shelf(), docWith("i", textsIn("tag", slices.Repeat([]string{"x"}, n)...)), want)
		wantDoc(t, shelf(), docWith("i", numbersIn("year", make([]int, n)...)), want)
		wantDoc(t, shelf(), docWith("i", textsIn("tag", "x"), textsIn("topic", slices.Repeat([]string{"x"}, n)...)), want)
	}
	for _, n := range []int{impl.MaxList, impl.MaxList + 1, 100000} {
		wantDoc(t, shelf(), docWith("i", textsIn("body", make([]string, n)...)), false)
		wantDoc(t, shelf(), docWith("i", numbersIn("year", make([]int, n)...)), false)
	}
}

func TestDocWords(t *testing.T) {
	for _, word := range append(goodTexts(), " ", "a b", "The End", "\n", "*?", "it's") {
		wantDoc(t, shelf(), docWith("i", textsIn("tag", word)), true)
		wantDoc(t, shelf(), docWith("i", textsIn("tag", "x", word)), true)
	}
	for _, word := range badTexts() {
		wantDoc(t, shelf(), docWith("i", textsIn("tag", word)), false)
		wantDoc(t, shelf(), docWith("i", textsIn("tag", "x", word)), false)
		wantDoc(t, shelf(), docWith("i", textsIn("tag", word, "x")), false)
		wantDoc(t, shelf(), docWith("i", textsIn("tag", "x"), textsIn("topic", "x", word, "x")), false)
	}
	for size := 60; size < 70; size++ {
		wantDoc(t, shelf(), docWith("i", textsIn("tag", strings.Repeat("a", size))), size <= impl.MaxTerm)
	}
}

func TestDocTexts(t *testing.T) {
	for _, text := range []string{"", " ", "a", "no \x00 word", strings.Repeat("a", 65), strings.Repeat("a ", 1990), "\u00e9\u4e2d\U0001f600", "\xff", "a\xc3", "\xc0\x80", "\xed\xa0\x80", "\xf4\x90\x80\x80", "x \xe4\xb8"} {
		_, want := formOf(text)
		wantDoc(t, shelf(), docWith("i", textsIn("body", text)), want)
		wantDoc(t, shelf(), docWith("i", textsIn("title", "", text)), want)
		wantDoc(t, shelf(), docWith("i", textsIn("title", text, "a")), want)
	}
}

// Just MaxBody bytes are in one text, in several of a field, and in several fields;
// then one more byte in each of the places.
func TestDocBody(t *testing.T) {
	full := func(size int) string { return strings.Repeat("a ", size/2) + strings.Repeat("b", size%2) }
	word := strings.Repeat("w", 50)
	for more := -1; more <= 2; more++ {
		want := more <= 0
		wantDoc(t, shelf(), docWith("i", textsIn("body", full(4000+more))), want)
		wantDoc(t, shelf(), docWith("i", textsIn("title", full(4000+more))), want)
		wantDoc(t, shelf(), docWith("i", textsIn("title", full(2000), full(1999+more), "x")), want)
		wantDoc(t, shelf(), docWith("i", textsIn("title", full(2000+more), full(1999), "x")), want)
		wantDoc(t, shelf(), docWith("i", textsIn("body", full(1000), full(1000)), textsIn("title", full(1000), full(1000+more))), want)
		wantDoc(t, shelf(), docWith("i", textsIn("body", full(1000+more), full(1000)), textsIn("title", full(1000), full(1000))), want)
		wantDoc(t, shelf(), docWith("i", textsIn("body", full(3950+more)), textsIn("tag", word)), want)
		wantDoc(t, shelf(), docWith("i", textsIn("body", full(3950)), numbersIn("pages", 1, 2), textsIn("topic", word[1:], strings.Repeat("w", 1+more))), want && more == 0)
		wantDoc(t, shelf(), docWith("i", textsIn("body", strings.Repeat("\u00e9", 1999)+full(2+more))), want)
		wantDoc(t, shelf(), docWith(strings.Repeat("i", 30), textsIn("body", full(4000+more)), numbersIn("year", make([]int, 16)...)), want)
	}
	for _, size := range []int{impl.MaxText, impl.MaxText + 1, 1 << 22} {
		wantDoc(t, shelf(), docWith("i", textsIn("body", full(size))), false)
	}
	var words []string
	for range impl.MaxValues {
		words = append(words, strings.Repeat("w", impl.MaxTerm))
	}
	s := schemaOf(wordField("a"), wordField("b"), wordField("c"), wordField("d"))
	wantDoc(t, s, docWith("i", textsIn("a", words...), textsIn("b", words...), textsIn("c", words...), textsIn("d", words[:14]...)), true)
	wantDoc(t, s, docWith("i", textsIn("a", words...), textsIn("b", words...), textsIn("c", words...), textsIn("d", words[:15]...)), false)
}

func TestDocNumbers(t *testing.T) {
	for _, n := range []int{0, 1, -1, greatestNumber, -greatestNumber, greatestNumber - 1, 1 - greatestNumber, greatestNumber + 1, -greatestNumber - 1, math.MaxInt, math.MinInt, math.MinInt + 1, impl.MaxNum} {
		want := n >= -greatestNumber && n <= greatestNumber
		wantDoc(t, shelf(), docWith("i", numbersIn("pages", n)), want)
		wantDoc(t, shelf(), docWith("i", numbersIn("pages", n, 5)), want)
		wantDoc(t, shelf(), docWith("i", numbersIn("pages", 5, n)), want)
		wantDoc(t, shelf(), docWith("i", numbersIn("pages", 5), numbersIn("year", 5, n, 5)), want)
	}
}

// manySynonyms tells an analyser by which 65 terms come of the word "a".
func manySynonyms() impl.Analyzer {
	a := impl.Analyzer{}
	for i := range impl.MaxStops {
		a.Synonyms = append(a.Synonyms, impl.Synonym{From: "a", To: "s" + string(rune('A'+i))})
	}
	return a
}

// A text may have a code by the analyser of its field alone.
func TestDocTextsWithCodes(t *testing.T) {
	s := schemaOf(textField("few", impl.Analyzer{}), textField("grams", impl.Analyzer{Lo: 1, Hi: 2}), textField("many", manySynonyms()))
	for _, c := range []struct {
		field, text string
		want        bool
	}{
		{"grams", strings.Repeat("a", 2048), true},
		{"grams", strings.Repeat("a", 2049), false},
		{"grams", strings.Repeat("a", 2000) + " " + strings.Repeat("a", 1990), true},
		{"grams", strings.Repeat("a ", 100) + strings.Repeat("\u00e9", 1800), true},
		{"few", strings.Repeat("a", 2049), true},
		{"many", strings.Repeat("a", 2049), true},
		{"many", strings.Repeat("a ", 126) + "b b", true},
		{"many", strings.Repeat("a ", 126) + "b b b", false},
		{"many", strings.Repeat("a ", 127), false},
		{"few", strings.Repeat("a ", 127), true},
		{"many", strings.Repeat("b ", 1990), true},
	} {
		wantDoc(t, s, docWith("i", textsIn(c.field, c.text)), c.want)
		wantDoc(t, s, docWith("i", textsIn(c.field, "x", c.text)), c.want)
		wantDoc(t, s, docWith("i", textsIn(c.field, c.text, "x")), c.want)
	}
	// Each text alone is told in at most MaxTokens terms; together they are more.
	texts := slices.Repeat([]string{strings.Repeat("a ", 124) + "b"}, impl.MaxValues)
	wantDoc(t, s, docWith("i", textsIn("many", texts...)), true)
}

// Two faults at once are no better than one.
func TestDocTwoFaults(t *testing.T) {
	for _, d := range []impl.Doc{
		docWith("", textsIn("tag")),
		docWith("a b", textsIn("tag", "")),
		docWith("i", textsIn("tag", ""), textsIn("body", "x")),
		docWith("i", textsIn("year", "x"), numbersIn("pages", greatestNumber+1)),
		docWith("i", impl.Value{Field: "year", Texts: []string{"\xff"}, Numbers: []int{greatestNumber + 1}}),
	} {
		wantDoc(t, shelf(), d, false)
		wantDoc(t, impl.Schema{}, d, false)
	}
}
