package tests

import (
	"math"
	"math/rand"
	"slices"
	"strings"
	"testing"

	"loop.example/g00018/impl"
)

func TestSuggestByEdits(t *testing.T) {
	// Words at 0, 1, 2 and 3 Edits, by each way to change one.
	wantNear(t, "cat", "cat", 9, "cat")
	wantNear(t, "cats at cot chat ca acat", "cat", 9, "acat at ca cats chat cot")
	wantNear(t, "catss a cog scats t co dot cates actor tac", "cat", 9, "a cates catss co cog dot scats t tac")
	wantNear(t, "catsss dog \u4e2d\u6587\u5b57 chatty scatty cccc xcatxx", "cat", 9, "")
	wantNear(t, "dog cats bat cat chat scats", "cat", 9, "cat bat cats chat scats")
	wantNear(t, "abc acb cab bac cba bca", "abc", 9, "abc acb bac bca cab cba")
	// Case and accents are changes; characters of several bytes are one.
	wantNear(t, "Cat CAT CaT c\u00e4t c\u00e4ts \u4e2dat \u4e2d\u6587t cat", "cat", 9, "cat Cat c\u00e4t \u4e2dat CaT c\u00e4ts \u4e2d\u6587t")
	wantNear(t, "\u4e2d \u4e2d\u6587 \u6587\u4e2d \u4e2d\u6587\u5b57 \u4e2d\u6587\u5b57\u5b57 \u4e2d\u6587\u5b57\u5b57\u5b57", "\u4e2d\u6587", 9, "\u4e2d\u6587 \u4e2d \u4e2d\u6587\u5b57 \u4e2d\u6587\u5b57\u5b57 \u6587\u4e2d")
	// Characters that share bytes are no nearer for that.
	wantNear(t, "\u00e9\u00e9\u00e9 \u00e8\u00e9\u00e9 \u00e8\u00e8\u00e9 \u00e8\u00e8\u00e8 \U0001f600\U0001f601", "\u00e9\u00e9\u00e9", 9, "\u00e9\u00e9\u00e9 \u00e8\u00e9\u00e9 \u00e8\u00e8\u00e9")
	wantNear(t, "\U0001f600 \U0001f601 \U0001f600\U0001f601", "\U0001f601", 9, "\U0001f601 \U0001f600 \U0001f600\U0001f601")
}

// Words with an empty text among them, and none.
func TestSuggestOfEmptyTexts(t *testing.T) {
	wantSuggest(t, nil, "cat", 5, nil, impl.OK)
	wantSuggest(t, []string{}, "", 5, nil, impl.OK)
	wantSuggest(t, []string{""}, "", 5, []string{""}, impl.OK)
	wantSuggest(t, []string{"abc", "b", "", "ab", "a", ""}, "", 5, []string{"", "a", "b", "ab"}, impl.OK)
	wantSuggest(t, []string{"", "x"}, "a", 5, []string{"", "x"}, impl.OK)
	wantSuggest(t, []string{"", "x"}, "ab", 5, []string{"", "x"}, impl.OK)
	wantSuggest(t, []string{"", "a"}, "abc", 5, []string{"a"}, impl.OK)
	for _, text := range []string{"", "a", "ab", "abc", "\u4e2d", "\u4e2d\u6587\u5b57"} {
		wantSameSuggest(t, []string{"", "a", "b", "ab", "ba", "abc", "abcd", "\u4e2d", "\u6587"}, text, 20)
	}
}

func TestSuggestTellsEachWordOnce(t *testing.T) {
	wantNear(t, "cat cat cat", "cat", 9, "cat")
	wantNear(t, "cats cat bat cats cat bat", "cat", 9, "cat bat cats")
	wantNear(t, "cats cat bat cats cat bat", "cat", 2, "cat bat")
	wantSuggest(t, slices.Repeat([]string{"cat", "cot"}, 2048), "cat", 20, []string{"cat", "cot"}, impl.OK)
}

func TestSuggestAtMost(t *testing.T) {
	words := "cat bat cats chat cot hat rat scats tac zz"
	all := strings.Fields("cat bat cats chat cot hat rat scats tac")
	for most := range 21 {
		wantNear(t, words, "cat", most, strings.Join(all[:min(most, len(all))], " "))
	}
	// More than are told at the most, in every order.
	source := rand.New(rand.NewSource(40))
	var many []string
	for a := 'a'; a <= 'z'; a++ {
		many = append(many, "ca"+string(a), string(a)+"at", "c"+string(a)+"t", "ca"+string(a)+string(a))
	}
	for range 20 {
		source.Shuffle(len(many), func(i, j int) { many[i], many[j] = many[j], many[i] })
		for _, most := range []int{0, 1, 19, 20} {
			wantSameSuggest(t, many, "cat", most)
		}
	}
	for _, most := range []int{math.MinInt, -20, -1, 21, 22, 1000, math.MaxInt} {
		wantSuggest(t, many, "cat", most, nil, impl.ErrRange)
		wantSuggest(t, nil, "", most, nil, impl.ErrRange)
	}
}

// Texts and words of MaxWord characters, and of one more.
func TestSuggestOfLongWords(t *testing.T) {
	for _, char := range []string{"x", "\u00e9", "\u4e2d", "\U0001f600"} {
		most := strings.Repeat(char, 200)
		less := strings.Repeat(char, 199)
		wantSuggest(t, []string{most, less, most + char}, most, 9, []string{most, less}, impl.OK)
		wantSuggest(t, []string{most, less, most + char, most + char + char}, less, 9, []string{less, most}, impl.OK)
		wantSuggest(t, []string{most + char}, most, 9, nil, impl.OK)
		wantSuggest(t, []string{most + char, "a"}, "a", 9, []string{"a"}, impl.OK)
		wantSuggest(t, []string{most}, most+char, 9, nil, impl.ErrRange)
		wantSuggest(t, nil, most+char, 9, nil, impl.ErrRange)
		changed := "a" + strings.Repeat(char, 198) + "b"
		wantSuggest(t, []string{changed, most, "a" + less, changed[1:] + "c", less + "b"}, most, 9, []string{most, "a" + less, less + "b", changed, changed[1:] + "c"}, impl.OK)
		wantSameSuggest(t, []string{changed, most, "a" + less, changed[1:] + "c", less + "b"}, most, 9)
	}
	// A word may be longer than any text that is an argument, as long as it is one.
	long := strings.Repeat("x", 1<<20)
	wantSuggest(t, []string{long, "cat", long + "y"}, "cat", 9, []string{"cat"}, impl.OK)
	wantSuggest(t, []string{"cat", long + "\xff"}, "cat", 9, nil, impl.ErrForm)
	wantSuggest(t, []string{"cat"}, strings.Repeat("x", 65536), 9, nil, impl.ErrRange)
	wantSuggest(t, []string{"cat"}, strings.Repeat("x", 65537), 9, nil, impl.ErrLong)
}

// As many words as can be, alike for long and near to the text in many ways.
func TestSuggestOfManyWords(t *testing.T) {
	source := rand.New(rand.NewSource(41))
	text := strings.Repeat("abcd\u00e9\u4e2d", 33)
	var words []string
	for range 4096 {
		words = append(words, changedText(source, text, "abcd\u00e9\u4e2d", source.Intn(5)))
	}
	list, code := impl.Suggest(words, text, 20)
	if code != impl.OK || len(list) != 20 {
		t.Errorf("%d words, code %d", len(list), code)
	}
	wantNearest(t, words, text, list)
	wantSuggest(t, append(words, "a"), text, 20, nil, impl.ErrLong)
	wantSuggest(t, make([]string, 4096), "", 20, []string{""}, impl.OK)
	wantSuggest(t, make([]string, 4097), "", 20, nil, impl.ErrLong)
	wantSuggest(t, make([]string, 1<<20), "\xff", 21, nil, impl.ErrLong)
}

// All words of a few letters against all texts of fewer.
func TestSuggestOfAllSmallWords(t *testing.T) {
	words := textsUpTo(4, "ab\u4e2d")
	for _, text := range textsUpTo(5, "ab") {
		for _, most := range []int{1, 7, 20} {
			wantSameSuggest(t, words, text, most)
		}
	}
	for _, text := range textsUpTo(3, "a\u4e2d\u6587") {
		wantSameSuggest(t, words, text, 20)
	}
}

func TestSuggestOfRandomWords(t *testing.T) {
	source := rand.New(rand.NewSource(42))
	told := 0
	for range 400 {
		chars := []string{"ab", "abc\u00e9", "a\u4e2d\u6587\U0001f600\x00"}[source.Intn(3)]
		text := changedText(source, "", chars, 1+source.Intn(12))
		var words []string
		for range source.Intn(40) {
			words = append(words, changedText(source, text, chars, source.Intn(5)))
		}
		most := source.Intn(21)
		wantSameSuggest(t, words, text, most)
		list, _ := impl.Suggest(words, text, most)
		told += len(list)
	}
	if told < 1000 {
		t.Errorf("only %d words are told", told)
	}
}

func TestSuggestOfWrongTexts(t *testing.T) {
	for _, wrong := range []string{"\xff", "a\xff", "\xc3", "\xe4\xb8", "\xed\xa0\x80", "\xc0\x80", "\xf4\x90\x80\x80", "cat\x80", strings.Repeat("a", 300) + "\xff"} {
		wantSuggest(t, []string{"cat"}, wrong, 5, nil, impl.ErrForm)
		wantSuggest(t, nil, wrong, 5, nil, impl.ErrForm)
		wantSuggest(t, []string{wrong}, "cat", 5, nil, impl.ErrForm)
		wantSuggest(t, []string{"cat", "dog", wrong}, "cat", 5, nil, impl.ErrForm)
		wantSuggest(t, []string{wrong, "cat"}, "cat", 0, nil, impl.ErrForm)
		// Ahead of what is out of its bounds.
		wantSuggest(t, []string{wrong}, "cat", 21, nil, impl.ErrForm)
		wantSuggest(t, []string{wrong}, strings.Repeat("a", 201), 5, nil, impl.ErrForm)
		wantSuggest(t, nil, wrong, -1, nil, impl.ErrForm)
		// Behind what is too long.
		wantSuggest(t, make([]string, 4097), wrong, 5, nil, impl.ErrLong)
		wantSuggest(t, []string{wrong}, strings.Repeat("a", 65537), 21, nil, impl.ErrLong)
		wantSuggest(t, nil, strings.Repeat(wrong, 65537), 5, nil, impl.ErrLong)
	}
}
