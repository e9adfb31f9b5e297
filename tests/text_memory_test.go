package tests

import (
	"slices"
	"strings"
	"testing"

	"loop.example/g00018/impl"
)

func memoryTexts() []string {
	return []string{
		"a", "7", "\u4e2d", "it's x_1", "already small and plain", "\u00c9t\u00e9 na\u00efve \u4e2d\u6587",
		strings.Repeat("word ", 2000), strings.Repeat("a", impl.MaxText),
	}
}

func TestEncodeLeavesItsList(t *testing.T) {
	lists := [][]int{{97, 233, 20013, 128512}, {97, -1, 98}, {55296}, slices.Repeat([]int{128512}, impl.MaxText), slices.Repeat([]int{97}, impl.MaxText+1)}
	for _, list := range lists {
		// What stands behind the list's end, but within its memory, stays too.
		whole := append(slices.Clone(list), -7, -8, -9)
		before := slices.Clone(whole)
		impl.Encode(whole[:len(list)])
		if !slices.Equal(whole, before) {
			t.Errorf("Encode wrote into %s", shortList(list))
		}
	}
}

func TestDecodeAnswersNewMemory(t *testing.T) {
	for _, s := range memoryTexts() {
		first, _ := impl.Decode(s)
		second, _ := impl.Decode(s)
		wantApart(t, first, second, -1, "Decode of "+short(s))
		wantDecode(t, s, second, impl.OK)
	}
}

func TestFoldTextAnswersNewMemory(t *testing.T) {
	for _, s := range memoryTexts() {
		if folded, _ := impl.FoldText(s); shares(folded, s) {
			t.Errorf("FoldText of %s lies in its argument", short(s))
		}
	}
}

func TestBreakAnswersNewMemory(t *testing.T) {
	for _, s := range memoryTexts() {
		first, _ := impl.Break(s)
		second, _ := impl.Break(s)
		for _, word := range first {
			if shares(word.Text, s) {
				t.Fatalf("Break of %s: %q lies in its argument", short(s), word.Text)
			}
		}
		wantApart(t, first, second, impl.Token{Text: "other", Pos: -1}, "Break of "+short(s))
	}
}

// Texts that are cut within characters, doubled or mixed: each call ends without a panic, and a text that
// Decode takes comes back.
func TestNothingPanicsOnPiecesOfText(t *testing.T) {
	base := "it's \u00e9\u4e2d'x_\U0001f600\xff\xc3\xe4\xb8 9\x00\xed\xa0\x80\xf4\x90\x80\x80_"
	for from := range len(base) {
		for to := from; to <= len(base); to++ {
			piece := base[from:to]
			for _, s := range []string{piece, piece + piece, piece + "'" + piece} {
				wantForm(t, s)
				if list, code := impl.Decode(s); code == impl.OK {
					wantEncode(t, list, s, impl.OK)
					wantSound(t, s)
				}
			}
		}
	}
}

func TestNothingPanicsOnAnyNumber(t *testing.T) {
	for _, r := range append(slices.Clone(oddNumbers), noCharacters...) {
		impl.Class(r)
		impl.Fold(r)
		impl.Encode([]int{r})
	}
	for _, r := range noCharacters {
		if s, code := impl.Encode([]int{r, r}); code != impl.ErrBad || s != "" {
			t.Errorf("Encode of %d twice: %q %d", r, s, code)
		}
	}
}
