package tests

import (
	"math"
	"strings"
	"testing"

	"loop.example/g00018/impl"
)

func classRows() []rangeRow {
	return []rangeRow{
		{39, 39, 3}, {48, 57, 2}, {65, 90, 1}, {95, 95, 3}, {97, 122, 1},
		{192, 214, 1}, {216, 246, 1}, {248, 591, 1}, {880, 1279, 1}, {12352, 12543, 4}, {19968, 40959, 4},
	}
}

// foldRows tells for each range of numbers that change by how much they do.
func foldRows() []rangeRow {
	rows := []rangeRow{
		{65, 90, 32}, {198, 198, 32}, {208, 208, 32}, {222, 222, 32},
		{913, 929, 32}, {931, 939, 32}, {1040, 1071, 32}, {1024, 1039, 80},
	}
	accented := map[int]string{
		97:  "\u00c0\u00c1\u00c2\u00c3\u00c4\u00c5\u00e0\u00e1\u00e2\u00e3\u00e4\u00e5",
		99:  "\u00c7\u00e7",
		101: "\u00c8\u00c9\u00ca\u00cb\u00e8\u00e9\u00ea\u00eb",
		105: "\u00cc\u00cd\u00ce\u00cf\u00ec\u00ed\u00ee\u00ef",
		110: "\u00d1\u00f1",
		111: "\u00d2\u00d3\u00d4\u00d5\u00d6\u00d8\u00f2\u00f3\u00f4\u00f5\u00f6\u00f8",
		117: "\u00d9\u00da\u00db\u00dc\u00f9\u00fa\u00fb\u00fc",
		121: "\u00dd\u00fd\u00ff",
	}
	for small, letters := range accented {
		for _, r := range letters {
			rows = append(rows, rangeRow{int(r), int(r), small - int(r)})
		}
	}
	return rows
}

// oddNumbers would be letters, digits or marks if they were cut to fewer bits.
var oddNumbers = []int{
	math.MinInt, math.MinInt + 65, -1 << 32, -1<<32 + 65, -1<<32 + 201, -65, -1, 1114112, 1<<16 + 65, 1<<21 + 65, 1<<31 + 65,
	1<<32 + 48, 1<<32 + 65, 1<<32 + 201, 1<<32 + 1025, 1<<32 + 20013, 1<<62 + 65, math.MaxInt,
}

func TestClassNumbers(t *testing.T) {
	got := [5]int{impl.ClassOther, impl.ClassLetter, impl.ClassDigit, impl.ClassMark, impl.ClassWide}
	if got != [5]int{0, 1, 2, 3, 4} {
		t.Errorf("the classes are %v", got)
	}
}

func TestClassAtTheEdges(t *testing.T) {
	rows := classRows()
	for _, r := range around(rows) {
		if want := answerOf(rows, r, 0); impl.Class(r) != want {
			t.Errorf("Class of %d: %d, want %d", r, impl.Class(r), want)
		}
	}
	for _, r := range oddNumbers {
		if impl.Class(r) != impl.ClassOther {
			t.Errorf("Class of %d: %d", r, impl.Class(r))
		}
	}
}

func TestClassEverywhere(t *testing.T) {
	rows := classRows()
	for r := -70000; r < 1200000; r++ {
		if want := answerOf(rows, r, 0); impl.Class(r) != want {
			t.Fatalf("Class of %d: %d, want %d", r, impl.Class(r), want)
		}
	}
}

func TestFoldAtTheEdges(t *testing.T) {
	// Each range of the document with both its ends and the neighbours outside it.
	pairs := [][2]int{
		{64, 64}, {65, 97}, {90, 122}, {91, 91}, {96, 96}, {97, 97}, {122, 122}, {123, 123},
		{191, 191}, {192, 97}, {197, 97}, {198, 230}, {199, 99}, {200, 101}, {203, 101}, {204, 105}, {207, 105},
		{208, 240}, {209, 110}, {210, 111}, {214, 111}, {215, 215}, {216, 111}, {217, 117}, {220, 117}, {221, 121},
		{222, 254}, {223, 223}, {224, 97}, {229, 97}, {230, 230}, {231, 99}, {232, 101}, {235, 101}, {236, 105},
		{239, 105}, {240, 240}, {241, 110}, {242, 111}, {246, 111}, {247, 247}, {248, 111}, {249, 117}, {252, 117},
		{253, 121}, {254, 254}, {255, 121}, {256, 256}, {376, 376},
		{912, 912}, {913, 945}, {929, 961}, {930, 930}, {931, 963}, {939, 971}, {940, 940}, {945, 945}, {971, 971},
		{1023, 1023}, {1024, 1104}, {1039, 1119}, {1040, 1072}, {1071, 1103}, {1072, 1072}, {1103, 1103}, {1104, 1104}, {1119, 1119},
	}
	for _, p := range pairs {
		if impl.Fold(p[0]) != p[1] {
			t.Errorf("Fold of %d: %d, want %d", p[0], impl.Fold(p[0]), p[1])
		}
	}
	for _, r := range oddNumbers {
		if impl.Fold(r) != r {
			t.Errorf("Fold of %d: %d", r, impl.Fold(r))
		}
	}
}

func TestFoldEverywhere(t *testing.T) {
	rows := foldRows()
	for r := -5000; r < 1200000; r++ {
		want := r
		if r < 5000 {
			want += answerOf(rows, r, 0)
		}
		if got := impl.Fold(r); got != want {
			t.Fatalf("Fold of %d: %d, want %d", r, got, want)
		}
		if again := impl.Fold(impl.Fold(r)); again != want {
			t.Fatalf("Fold twice of %d: %d, want %d", r, again, want)
		}
	}
}

func TestFoldTextOrdinary(t *testing.T) {
	wantFolded(t, "", "", impl.OK)
	wantFolded(t, "plain text, 7_'", "plain text, 7_'", impl.OK)
	wantFolded(t, "\u00c0\u00c6\u00d7\u00df\u00ff \u0391\u03a9 \u0400\u042f \u4e2d\U0001f600\ufffd", "a\u00e6\u00d7\u00dfy \u03b1\u03c9 \u0450\u044f \u4e2d\U0001f600\ufffd", impl.OK)
}

func TestFoldTextOfEveryCharacter(t *testing.T) {
	for r := range 1114112 {
		if r >= 55296 && r <= 57343 {
			continue
		}
		want := string(rune(impl.Fold(r)))
		if got, code := impl.FoldText(string(rune(r))); code != impl.OK || got != want {
			t.Fatalf("FoldText of %d: %q %d, want %q", r, got, code, want)
		}
	}
}

func TestFoldTextLongest(t *testing.T) {
	wantFolded(t, strings.Repeat("A", impl.MaxText), strings.Repeat("a", impl.MaxText), impl.OK)
	wantFolded(t, strings.Repeat("A", impl.MaxText+1), "", impl.ErrLong)
	// What comes out may be shorter: what was handed in is measured.
	wantFolded(t, strings.Repeat("\u00c9", impl.MaxText/2), strings.Repeat("e", impl.MaxText/2), impl.OK)
	wantFolded(t, strings.Repeat("\u00c9", impl.MaxText/2)+"A", "", impl.ErrLong)
	wantFolded(t, strings.Repeat("A", impl.MaxText-1)+"\xff", "", impl.ErrForm)
	wantFolded(t, strings.Repeat("A", impl.MaxText)+"\xff", "", impl.ErrLong)
	wantFolded(t, "A\xed\xa0\x80B", "", impl.ErrForm)
}
