package tests

import (
	"math"
	"math/rand"
	"slices"
	"strings"
	"testing"

	"loop.example/g00018/impl"
)

func TestFragmentsInWritten(t *testing.T) {
	// Without a mark.
	wantCut(t, "", 10)
	wantCut(t, "a", 10)
	wantCut(t, "no marks are in this text] at all", 10)
	wantCut(t, strings.Repeat("]", 50), 10)
	// With one, in each part.
	wantCut(t, "[a]", 10, "[a]")
	wantCut(t, "the [cat] sat on a mat", 10, "the [cat] ")
	wantCut(t, "on a mat the [cat] sat", 10, "he [cat] s")
	wantCut(t, "on a mat there sat [a] cat", 10, "here sat [")
	wantCut(t, "0123456789012345678901[x]", 10, "01[x]")
	// Several, in one part and in different ones.
	wantCut(t, "[a] [b] c [d] [e] f g h i", 10, "[a] [b] c ", "[d] [e] f ")
	wantCut(t, "[a]34567890123456789[b]3456", 10, "[a]3456789", "[b]3456")
	wantCut(t, "[[[[[[[[[[[[[[[[[[[[[", 10, "[[[[[[[[[[", "[[[[[[[[[[", "[")
	// Equal parts are told each.
	wantCut(t, strings.Repeat("[abcdefgh]", 3), 10, "[abcdefgh]", "[abcdefgh]", "[abcdefgh]")
	// A marked word that stands in two parts, and in three.
	wantCut(t, "0123456[cats]34567890", 10, "0123456[ca")
	wantCut(t, "012345678[a] b [c]", 10, "012345678[", "a] b [c]")
	wantCut(t, "01[abcdefghijklmnopqrstuvw]x", 10, "01[abcdefg")
	// As the first and the last character of a part.
	wantCut(t, "0123456789[abcdefghi", 10, "[abcdefghi")
	wantCut(t, "012345678[0123456789", 10, "012345678[")
	wantCut(t, "0123456789012345678[", 10, "012345678[")
	wantCut(t, "01234567890123456789[", 10, "[")
	// Lines, and bytes that are 0, are characters as others are.
	wantCut(t, "\n\x00\n\x00\n\x00\n\x00\n\x00[\n", 10, "[\n")
}

func TestFragmentsOfCharacters(t *testing.T) {
	wantCut(t, "\u00e9\u00e9\u00e9\u00e9\u00e9[\u4e2d\u6587]\u00e9\u00e9\u00e9", 10, "\u00e9\u00e9\u00e9\u00e9\u00e9[\u4e2d\u6587]\u00e9")
	wantCut(t, strings.Repeat("\u4e2d", 10)+"[\U0001F600]", 10, "[\U0001F600]")
	wantCut(t, strings.Repeat("\U0001F600", 9)+"[\U0001F600]", 10, strings.Repeat("\U0001F600", 9)+"[")
	wantCut(t, "a"+strings.Repeat("\u00e9", 19)+"[b", 10, "[b")
	// What looks like a mark within a character's bytes is none.
	wantCut(t, "\u5b5b\uff3b\u015b\u005d", 10)
	for _, char := range []string{"x", "\u00e9", "\u4e2d", "\U0001F600"} {
		for _, size := range []int{10, 11, 57, 999, 1000} {
			for ahead := range 4 {
				text := strings.Repeat(char, 2*size-2+ahead) + "[" + char + "]"
				wantSameFragments(t, text, size)
			}
		}
	}
}

// Texts of just size characters, one less and one more, with the mark at each place.
func TestFragmentsOfEachLength(t *testing.T) {
	for _, size := range []int{10, 12} {
		for length := 1; length <= 3*size+1; length++ {
			for place := range length {
				text := strings.Repeat("x", place) + "[" + strings.Repeat("\u00e9", length-place-1)
				list := wantSameFragments(t, text, size)
				if len(list) != 1 || len([]rune(list[0])) != min(size, length-place/size*size) {
					t.Errorf("%s, %d: %q", text, size, list)
				}
			}
		}
	}
	for _, size := range []int{10, 1000} {
		wantCut(t, strings.Repeat("x", size-2)+"[", size, strings.Repeat("x", size-2)+"[")
		wantCut(t, strings.Repeat("x", size-1)+"[", size, strings.Repeat("x", size-1)+"[")
		wantCut(t, strings.Repeat("x", size)+"[", size, "[")
		wantCut(t, "["+strings.Repeat("x", size), size, "["+strings.Repeat("x", size-1))
	}
}

func TestFragmentsLimits(t *testing.T) {
	for size, code := range map[int]int{math.MinInt: impl.ErrRange, -10: impl.ErrRange, 0: impl.ErrRange, 1: impl.ErrRange, 9: impl.ErrRange, 10: impl.OK, 11: impl.OK, 999: impl.OK, 1000: impl.OK, 1001: impl.ErrRange, math.MaxInt: impl.ErrRange} {
		for _, text := range []string{"", "[a]", "none", strings.Repeat("[\u00e9] ", 700)} {
			if _, own := fragmentsOf(text, size); own != code {
				t.Fatalf("the second telling of %d: code %d, want %d", size, own, code)
			}
			wantSameFragments(t, text, size)
		}
	}
	long := strings.Repeat("[", impl.MaxText)
	if list := wantSameFragments(t, long, 10); len(list) != 6554 || list[6553] != "[[[[[[" {
		t.Errorf("%d fragments", len(list))
	}
	if list := wantSameFragments(t, long, 1000); len(list) != 66 {
		t.Errorf("%d fragments", len(list))
	}
	wantFragments(t, long+"[", 10, nil, impl.ErrLong)
	wantFragments(t, strings.Repeat("[", 1<<24), 10, nil, impl.ErrLong)
}

// Too long counts ahead of not well-formed, that ahead of the size.
func TestFragmentsOfWrongTexts(t *testing.T) {
	for _, text := range []string{"\xff", "a\xc3", "\xc0\x80", "\xed\xa0\x80", "\xf4\x90\x80\x80", "\x80", "[\xe4\xb8]", "\xf8\x88\x80\x80\x80"} {
		for _, size := range []int{9, 10, 500, 1000, 1001} {
			wantFragments(t, text, size, nil, impl.ErrForm)
			wantFragments(t, "0123456789[a]"+text, size, nil, impl.ErrForm)
		}
	}
	for _, size := range []int{9, 10, 1001} {
		wantFragments(t, strings.Repeat("\xff", impl.MaxText+1), size, nil, impl.ErrLong)
		wantFragments(t, strings.Repeat("\xff", impl.MaxText), size, nil, impl.ErrForm)
		wantFragments(t, strings.Repeat("a", impl.MaxText+1), size, nil, impl.ErrLong)
	}
	for _, text := range goodTexts() {
		wantSameFragments(t, text, 10)
		wantSameFragments(t, text+"[x", 17)
	}
}

func TestFragmentsOfRandomTexts(t *testing.T) {
	source := rand.New(rand.NewSource(129))
	signs := []string{"a", "b ", "[", "]", "\u00e9", "\u4e2d", "\U0001F600", " "}
	several := 0
	for range 1500 {
		text := ""
		for range source.Intn(80) {
			text += signs[source.Intn(len(signs))]
		}
		several += btoi(len(wantSameFragments(t, text, 10+source.Intn(12))) > 1)
	}
	if several < 500 {
		t.Errorf("only %d have several", several)
	}
}

// What Highlight marks: fragments put together with the parts that have no mark are
// the text, and every marked word begins in one.
func TestFragmentsOfHighlights(t *testing.T) {
	source := rand.New(rand.NewSource(130))
	marks := 0
	for range 200 {
		d := docWith("d", textsIn("plain", randomWords(source, 30)))
		list, code := impl.Highlight(scene(), d, "plain", queryOf(t, "plain:cat plain:d* feline"))
		if code != impl.OK {
			t.Fatalf("code %d", code)
		}
		fragments := wantSameFragments(t, list[0], 10)
		if strings.Count(strings.Join(fragments, ""), "[") != strings.Count(list[0], "[") {
			t.Errorf("%q of %q", fragments, list[0])
		}
		rest := list[0]
		for _, one := range fragments {
			at := strings.Index(rest, one)
			if at < 0 || !strings.Contains(one, "[") {
				t.Fatalf("%q of %q", fragments, list[0])
			}
			rest = rest[at+len(one):]
		}
		marks += len(fragments)
	}
	if marks < 200 {
		t.Errorf("only %d fragments", marks)
	}
	if !slices.Equal(wantSameFragments(t, "[a]", 10), []string{"[a]"}) {
		t.Error("a text that is short is no fragment")
	}
}
