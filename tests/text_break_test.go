package tests

import (
	"slices"
	"strings"
	"testing"

	"loop.example/g00018/impl"
)

// tokens cuts the words from the text, so that a case names places alone.
func tokens(text string, places ...[2]int) []impl.Token {
	var list []impl.Token
	for i, p := range places {
		list = append(list, impl.Token{Text: text[p[0]:p[1]], Pos: i, From: p[0], To: p[1]})
	}
	return list
}

func TestBreakCases(t *testing.T) {
	cases := []struct {
		text   string
		places [][2]int
	}{
		{"", nil},
		{" \t\n.,;-\u00d7\u00f7\U0001f600", nil},
		{"one two", [][2]int{{0, 3}, {4, 7}}},
		{"abc123 4x", [][2]int{{0, 6}, {7, 9}}},
		{"a\u00d7b\u00f7c", [][2]int{{0, 1}, {3, 4}, {6, 7}}},
		{"\u00c9t\u00e9 \u0416", [][2]int{{0, 5}, {6, 8}}},
		{"a\u0300b", [][2]int{{0, 1}, {3, 4}}},
		{"\x00a\x00", [][2]int{{1, 2}}},
		// Marks: at the beginning, at the end, beside each other, between letters and digits.
		{"'", nil}, {"_", nil}, {"''__", nil},
		{"'a", [][2]int{{1, 2}}}, {"_9", [][2]int{{1, 2}}}, {"__init__", [][2]int{{2, 6}}},
		{"a'", [][2]int{{0, 1}}}, {"9_", [][2]int{{0, 1}}}, {"dogs' tail", [][2]int{{0, 4}, {6, 10}}},
		{"a'b", [][2]int{{0, 3}}}, {"a_b", [][2]int{{0, 3}}}, {"a'1", [][2]int{{0, 3}}}, {"1_a", [][2]int{{0, 3}}}, {"1'2", [][2]int{{0, 3}}},
		{"a'b_c'1_2", [][2]int{{0, 9}}},
		{"a''b", [][2]int{{0, 1}, {3, 4}}}, {"a_'b", [][2]int{{0, 1}, {3, 4}}}, {"a'''b", [][2]int{{0, 1}, {4, 5}}},
		{"a'b''c'd", [][2]int{{0, 3}, {5, 8}}},
		{"a' b", [][2]int{{0, 1}, {3, 4}}}, {"a 'b", [][2]int{{0, 1}, {3, 4}}}, {"a-'b", [][2]int{{0, 1}, {3, 4}}},
		{"\u00e9'\u00e9", [][2]int{{0, 5}}}, {"\u044f_1", [][2]int{{0, 4}}},
		// Wide characters: alone, beside letters, beside marks.
		{"\u4e2d", [][2]int{{0, 3}}}, {"\u3040\u30ff\u4e00\u9fff", [][2]int{{0, 3}, {3, 6}, {6, 9}, {9, 12}}},
		{"\u303f\u3100\ua000", nil},
		{"a\u4e2db", [][2]int{{0, 1}, {1, 4}, {4, 5}}}, {"1\u4e2d", [][2]int{{0, 1}, {1, 4}}},
		{"a'\u4e2d", [][2]int{{0, 1}, {2, 5}}}, {"\u4e2d'a", [][2]int{{0, 3}, {4, 5}}}, {"\u4e2d'\u4e2d", [][2]int{{0, 3}, {4, 7}}},
		{"a_b\u4e2d_c", [][2]int{{0, 3}, {3, 6}, {7, 8}}}, {"'\u4e2d'", [][2]int{{1, 4}}},
	}
	for _, c := range cases {
		wantBreak(t, c.text, tokens(c.text, c.places...), impl.OK)
		wantSound(t, c.text)
	}
}

func TestBreakEveryShortText(t *testing.T) {
	symbols := []symbol{
		{"a", impl.ClassLetter}, {"\u00e9", impl.ClassLetter}, {"7", impl.ClassDigit}, {"'", impl.ClassMark},
		{"_", impl.ClassMark}, {"\u4e2d", impl.ClassWide}, {" ", impl.ClassOther}, {"\U0001f600", impl.ClassOther},
	}
	var list []symbol
	var text string
	var grow func(left int)
	grow = func(left int) {
		wantBreak(t, text, wordsOf(list), impl.OK)
		wantSound(t, text)
		for _, s := range symbols {
			if left > 0 {
				list, text = append(list, s), text+s.text
				grow(left - 1)
				list, text = list[:len(list)-1], text[:len(text)-len(s.text)]
			}
		}
	}
	grow(5)
}

// Each character stands alone, behind a letter with a mark, and within a word.
func TestBreakEveryCharacter(t *testing.T) {
	rows := classRows()
	for r := range 1114112 {
		if r >= 55296 && r <= 57343 {
			continue
		}
		s := symbol{string(rune(r)), answerOf(rows, r, 0)}
		a, mark := symbol{"a", impl.ClassLetter}, symbol{"'", impl.ClassMark}
		list := []symbol{s, a, s, mark, a, mark, s}
		var text strings.Builder
		for _, s := range list {
			text.WriteString(s.text)
		}
		got, code := impl.Break(text.String())
		if want := wordsOf(list); code != impl.OK || !slices.Equal(got, want) {
			t.Fatalf("Break around %d: %v %d, want %v", r, got, code, want)
		}
	}
}

func TestBreakMostWords(t *testing.T) {
	for _, c := range []struct{ word, gap string }{{"a", " "}, {"\u4e2d", ""}, {"7x", "''"}, {"x_\u00e9", "-"}} {
		text := strings.Repeat(c.word+c.gap, impl.MaxTokens)
		list, code := impl.Break(text)
		if code != impl.OK || len(list) != impl.MaxTokens {
			t.Errorf("%s: %d words, code %d", short(text), len(list), code)
		}
		wantSound(t, text)
		wantSound(t, text+" .' ")
		wantBreak(t, text+c.word, nil, impl.ErrMany)
		wantBreak(t, text+"\u4e00", nil, impl.ErrMany)
		wantBreak(t, text+"''z", nil, impl.ErrMany)
		// A wrong form is told ahead of too many words, wherever it stands.
		wantBreak(t, text+c.word+"\xff", nil, impl.ErrForm)
		wantBreak(t, "\xc0\x80"+text+c.word, nil, impl.ErrForm)
	}
}

func TestBreakLongest(t *testing.T) {
	full := strings.Repeat("a", impl.MaxText)
	wantBreak(t, full, []impl.Token{{Text: full, To: impl.MaxText}}, impl.OK)
	wantBreak(t, full+"a", nil, impl.ErrLong)
	joined := strings.Repeat("a'", impl.MaxText/2)
	wantBreak(t, joined, []impl.Token{{Text: joined[:impl.MaxText-1], To: impl.MaxText - 1}}, impl.OK)
	wantBreak(t, strings.Repeat("'", impl.MaxText), nil, impl.OK)
	wantBreak(t, strings.Repeat("'", impl.MaxText+1), nil, impl.ErrLong)
	wantBreak(t, strings.Repeat("a ", impl.MaxText/2), nil, impl.ErrMany)
	// The length is told ahead of the form and of the number of words.
	wantBreak(t, strings.Repeat("a ", impl.MaxText/2)+"b", nil, impl.ErrLong)
	wantBreak(t, full+"\xff", nil, impl.ErrLong)
	wantBreak(t, full[:impl.MaxText-1]+"\xff", nil, impl.ErrForm)
	wantBreak(t, full[:impl.MaxText-1]+"\u00e9", nil, impl.ErrLong)
}
