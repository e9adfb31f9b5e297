package tests

import (
	"slices"
	"testing"
	"unsafe"

	"loop.example/g00018/impl"
)

// A rangeRow gives one answer to all numbers from lo to hi.
type rangeRow struct {
	lo, hi, answer int
}

// around tells both ends of each range and their neighbours on either side.
func around(rows []rangeRow) []int {
	var list []int
	for _, row := range rows {
		list = append(list, row.lo-1, row.lo, row.lo+1, row.hi-1, row.hi, row.hi+1)
	}
	return list
}

// answerOf tells the answer of the row that holds r, and other without one.
func answerOf(rows []rangeRow, r, other int) int {
	for _, row := range rows {
		if row.lo <= r && r <= row.hi {
			return row.answer
		}
	}
	return other
}

// formOf decodes by the arithmetic of UTF-8, without the library's help.
func formOf(s string) ([]int, bool) {
	var list []int
	for len(s) > 0 {
		size := formSize(s[0])
		if size == 0 || len(s) < size {
			return nil, false
		}
		r := int(s[0])
		if size > 1 {
			r &= 0x7f >> size
		}
		for i := 1; i < size; i++ {
			if s[i]&0xc0 != 0x80 {
				return nil, false
			}
			r = r<<6 | int(s[i]&0x3f)
		}
		shortest := []int{0, 0x80, 0x800, 0x10000}[size-1]
		if r < shortest || r > 1114111 || r >= 55296 && r <= 57343 {
			return nil, false
		}
		list = append(list, r)
		s = s[size:]
	}
	return list, true
}

func formSize(lead byte) int {
	switch {
	case lead < 0x80:
		return 1
	case lead >= 0xc0 && lead < 0xe0:
		return 2
	case lead >= 0xe0 && lead < 0xf0:
		return 3
	case lead >= 0xf0 && lead < 0xf8:
		return 4
	}
	return 0
}

// A symbol is one character and the class that the test knows it to have.
type symbol struct {
	text  string
	class int
}

// wordsOf tells the words of the symbols by the definition: which characters
// are in a word is settled first, the runs are told behind that.
func wordsOf(list []symbol) []impl.Token {
	within := make([]bool, len(list))
	for i, s := range list {
		within[i] = counts(list, i) || s.class == impl.ClassMark && counts(list, i-1) && counts(list, i+1)
	}
	var words []impl.Token
	from, open := 0, false
	for i, s := range list {
		switch {
		case s.class == impl.ClassWide:
			words = append(words, impl.Token{Text: s.text, Pos: len(words), From: from, To: from + len(s.text)})
			open = false
		case !within[i]:
			open = false
		case open:
			words[len(words)-1].Text += s.text
			words[len(words)-1].To += len(s.text)
		default:
			words = append(words, impl.Token{Text: s.text, Pos: len(words), From: from, To: from + len(s.text)})
			open = true
		}
		from += len(s.text)
	}
	return words
}

// counts tells whether a letter or digit stands at place i.
func counts(list []symbol, i int) bool {
	return i >= 0 && i < len(list) && (list[i].class == impl.ClassLetter || list[i].class == impl.ClassDigit)
}

func wantDecode(t *testing.T, s string, want []int, wantCode int) {
	t.Helper()
	if list, code := impl.Decode(s); code != wantCode || !slices.Equal(list, want) {
		t.Errorf("Decode of %s: %s, code %d, want code %d", short(s), shortList(list), code, wantCode)
	}
}

func wantEncode(t *testing.T, list []int, want string, wantCode int) {
	t.Helper()
	if s, code := impl.Encode(list); code != wantCode || s != want {
		t.Errorf("Encode of %s: %s, code %d, want code %d", shortList(list), short(s), code, wantCode)
	}
}

func wantFolded(t *testing.T, s, want string, wantCode int) {
	t.Helper()
	if got, code := impl.FoldText(s); code != wantCode || got != want {
		t.Errorf("FoldText of %s: %s, code %d, want %s, code %d", short(s), short(got), code, short(want), wantCode)
	}
}

func wantBreak(t *testing.T, s string, want []impl.Token, wantCode int) {
	t.Helper()
	list, code := impl.Break(s)
	if code != wantCode || !slices.Equal(list, want) {
		t.Errorf("Break of %s: %d words, code %d, want %d words, code %d", short(s), len(list), code, len(want), wantCode)
		for i := 0; i < len(list) && i < len(want); i++ {
			if list[i] != want[i] {
				t.Errorf("word %d: %v, want %v", i, list[i], want[i])
				return
			}
		}
	}
}

// wantSound holds the promises of Break that need no second program: words
// stand where it says, in order, and do not overlap.
func wantSound(t *testing.T, s string) {
	t.Helper()
	list, code := impl.Break(s)
	if code != impl.OK {
		t.Errorf("Break of %s: code %d", short(s), code)
	}
	end := 0
	for i, word := range list {
		if word.Pos != i || word.From < end || word.To <= word.From || word.To > len(s) {
			t.Fatalf("Break of %s: word %d: %v behind place %d", short(s), i, word, end)
		}
		if word.Text != s[word.From:word.To] {
			t.Fatalf("Break of %s: word %d: %v, but %q stands there", short(s), i, word, s[word.From:word.To])
		}
		end = word.To
	}
}

// shares tells whether two texts lie, even in part, in the same memory.
func shares(a, b string) bool {
	if a == "" || b == "" {
		return false
	}
	first := uintptr(unsafe.Pointer(unsafe.StringData(a)))
	second := uintptr(unsafe.Pointer(unsafe.StringData(b)))
	return first < second+uintptr(len(b)) && second < first+uintptr(len(a))
}

// wantApart writes over one of two answers to the same question, also behind
// its end: the other one must stay as it was.
func wantApart[T comparable](t *testing.T, first, second []T, other T, what string) {
	t.Helper()
	want := slices.Clone(second)
	first = first[:cap(first)]
	for i := range first {
		first[i] = other
	}
	if !slices.Equal(second, want) {
		t.Errorf("two answers of %s share memory", what)
	}
}
