package tests

import (
	"math"
	"slices"
	"strings"
	"testing"

	"loop.example/g00018/impl"
)

var oddSizes = []int{math.MinInt, math.MinInt + 1, -1 << 32, -9, -8, -1, 0, 1, 2, 3, 7, 8, 9, 1<<32 + 1, 1<<32 + 8, math.MaxInt - 1, math.MaxInt}

func TestGramsInOrder(t *testing.T) {
	list, code := impl.Grams("ab\u00e9\u4e2d\U0001f600", 2, 3)
	want := []string{"ab", "ab\u00e9", "b\u00e9", "b\u00e9\u4e2d", "\u00e9\u4e2d", "\u00e9\u4e2d\U0001f600", "\u4e2d\U0001f600"}
	if code != impl.OK || !slices.Equal(list, want) {
		t.Errorf("%q %d", list, code)
	}
	wantGrams(t, "aaaa", 2, 2, []string{"aa", "aa", "aa"}, impl.OK)
	wantGrams(t, "abab", 2, 4, []string{"ab", "aba", "abab", "ba", "bab", "ab"}, impl.OK)
	wantGrams(t, "", 1, 8, nil, impl.OK)
	wantGrams(t, "ab", 3, 8, nil, impl.OK)
	wantGrams(t, "abc", 3, 8, []string{"abc"}, impl.OK)
	wantGrams(t, "12345678", 8, 8, []string{"12345678"}, impl.OK)
	wantGrams(t, "1234567", 8, 8, nil, impl.OK)
	wantGrams(t, "123456789", 8, 8, []string{"12345678", "23456789"}, impl.OK)
	wantGrams(t, "\x00'A", 1, 1, []string{"\x00", "'", "A"}, impl.OK)
}

func TestGramsOfAllSizes(t *testing.T) {
	letters := []rune{'a', 233, 'b', 20013, 128512, 'a', 'a', 0, 1114111, 55295, 57344, 127, 128, 2047, 2048}
	for _, lo := range oddSizes {
		for _, hi := range oddSizes {
			for length := range letters {
				word := string(letters[:length])
				want, wantCode := gramsOf(word, lo, hi)
				wantGrams(t, word, lo, hi, want, wantCode)
			}
		}
	}
}

// The longest word whose grams are few enough, and one with a character more.
func TestGramsAtTheMost(t *testing.T) {
	for lo := 1; lo <= impl.MaxGram; lo++ {
		for hi := lo; hi <= impl.MaxGram; hi++ {
			length := 0
			for gramCount(length+1, lo, hi) <= impl.MaxList {
				length++
			}
			for _, letter := range []string{"a", "\u00e9", "\U0001f600"} {
				word := strings.Repeat(letter, length)
				want, _ := gramsOf(word, lo, hi)
				wantGrams(t, word, lo, hi, want, impl.OK)
				wantGrams(t, word+"b", lo, hi, nil, impl.ErrMany)
			}
		}
	}
	if list, code := impl.Grams(strings.Repeat("a", impl.MaxList), 1, 1); len(list) != impl.MaxList || code != impl.OK {
		t.Errorf("%d grams, code %d", len(list), code)
	}
	wantGrams(t, strings.Repeat("a", impl.MaxText), 8, 8, nil, impl.ErrMany)
	wantGrams(t, strings.Repeat("\U0001f600", impl.MaxText/4), 1, 8, nil, impl.ErrMany)
}

func gramCount(length, lo, hi int) int {
	count := 0
	for size := lo; size <= hi && size <= length; size++ {
		count += length - size + 1
	}
	return count
}

// Of two faults the one that the document names first gives the code.
func TestGramsFaultsInOrder(t *testing.T) {
	long, form := strings.Repeat("a", impl.MaxText+1), "a\xffb"
	many := strings.Repeat("a", impl.MaxList+1)
	for _, c := range []struct {
		word         string
		lo, hi, code int
	}{
		{long, 1, 1, impl.ErrLong}, {long, 0, 0, impl.ErrLong}, {long + "\xff", 1, 1, impl.ErrLong}, {long + "\xff", 2, 1, impl.ErrLong},
		{form, 1, 1, impl.ErrForm}, {form, 0, 0, impl.ErrForm}, {form, 2, 1, impl.ErrForm}, {form, 1, 9, impl.ErrForm}, {many + "\xff", 1, 1, impl.ErrForm},
		{"a", 0, 0, impl.ErrBad}, {"a", 0, 1, impl.ErrBad}, {"a", 2, 1, impl.ErrBad}, {"a", 8, 9, impl.ErrBad}, {"a", 9, 9, impl.ErrBad}, {"", 0, 1, impl.ErrBad},
		{many, 0, 1, impl.ErrBad}, {many, 1, 9, impl.ErrBad}, {many, 1, 1, impl.ErrMany}, {strings.Repeat("a", impl.MaxText), 1, 1, impl.ErrMany},
		{"a", 1, math.MaxInt, impl.ErrBad}, {"a", math.MinInt, 1, impl.ErrBad}, {"a", math.MinInt, math.MaxInt, impl.ErrBad}, {"a", math.MaxInt, math.MaxInt, impl.ErrBad},
	} {
		wantGrams(t, c.word, c.lo, c.hi, nil, c.code)
	}
}
