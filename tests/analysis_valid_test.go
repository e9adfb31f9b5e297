package tests

import (
	"slices"
	"strings"
	"testing"

	"loop.example/g00018/impl"
)

// goodTexts may stand in an analyser, badTexts may not.
func goodTexts() []string {
	return []string{
		"a", "the", "The", "two words", "\x00", "'", "\u00e9", "\u4e2d", strings.Repeat("a", impl.MaxTerm),
		strings.Repeat("\u00e9", impl.MaxTerm/2), strings.Repeat("\U0001f600", impl.MaxTerm/4),
	}
}

func badTexts() []string {
	return []string{
		"", strings.Repeat("a", impl.MaxTerm+1), strings.Repeat("\u00e9", impl.MaxTerm/2) + "a", strings.Repeat("a", impl.MaxText+1),
		"\xff", "a\xc3", "\xc0\x80", "\xed\xa0\x80", "\xf4\x90\x80\x80", strings.Repeat("a", impl.MaxTerm-1) + "\xff", strings.Repeat("\u4e2d", 21) + "\xe4",
	}
}

func TestAnalyzerLimits(t *testing.T) {
	got := [3]int{impl.MaxTerm, impl.MaxStops, impl.MaxGram}
	if got != [3]int{64, 64, 8} {
		t.Errorf("the limits are %v", got)
	}
}

func wantValid(t *testing.T, a impl.Analyzer, want bool) {
	t.Helper()
	if impl.AnalyzerOK(a) != want {
		t.Errorf("AnalyzerOK of %s is not %v", shortAnalyzer(a), want)
	}
	code := impl.OK
	if !want {
		code = impl.ErrBad
	}
	if list, got := impl.Analyze(a, ""); got != code || len(list) != 0 {
		t.Errorf("Analyze by %s: %v, code %d, want code %d", shortAnalyzer(a), list, got, code)
	}
}

func TestAnalyzerTexts(t *testing.T) {
	for _, text := range goodTexts() {
		wantValid(t, impl.Analyzer{Stops: []string{text}}, true)
		wantValid(t, impl.Analyzer{Synonyms: []impl.Synonym{{From: text, To: "other"}}}, true)
		wantValid(t, impl.Analyzer{Synonyms: []impl.Synonym{{From: "other", To: text}}}, true)
		wantValid(t, impl.Analyzer{Synonyms: []impl.Synonym{{From: text, To: text}}}, false)
		wantValid(t, impl.Analyzer{Stops: []string{text, text}, Synonyms: []impl.Synonym{{From: text, To: "other"}, {From: "other", To: text}, {From: text, To: "other"}}}, true)
	}
	for _, text := range badTexts() {
		wantValid(t, impl.Analyzer{Stops: []string{text}}, false)
		wantValid(t, impl.Analyzer{Stops: []string{"a", "b", text}}, false)
		wantValid(t, impl.Analyzer{Stops: []string{text, "a", "b"}}, false)
		wantValid(t, impl.Analyzer{Synonyms: []impl.Synonym{{From: text, To: "other"}}}, false)
		wantValid(t, impl.Analyzer{Synonyms: []impl.Synonym{{From: "other", To: text}}}, false)
		wantValid(t, impl.Analyzer{Synonyms: []impl.Synonym{{From: "a", To: "b"}, {From: "other", To: text}}}, false)
		wantValid(t, impl.Analyzer{Synonyms: []impl.Synonym{{From: text, To: "other"}, {From: "a", To: "b"}}}, false)
	}
	wantValid(t, impl.Analyzer{Synonyms: []impl.Synonym{{From: "a", To: "b"}, {From: "b", To: "b"}}}, false)
	wantValid(t, impl.Analyzer{Synonyms: []impl.Synonym{{From: "a", To: "A"}, {From: "b", To: "a"}, {From: "a", To: "b"}}}, true)
}

func TestAnalyzerCounts(t *testing.T) {
	synonyms := slices.Repeat([]impl.Synonym{{From: "a", To: "b"}}, impl.MaxStops+1)
	stops := slices.Repeat([]string{"c"}, impl.MaxStops+1)
	wantValid(t, impl.Analyzer{}, true)
	wantValid(t, impl.Analyzer{Stops: []string{}, Synonyms: []impl.Synonym{}}, true)
	wantValid(t, impl.Analyzer{Stops: stops[1:], Synonyms: synonyms[1:]}, true)
	wantValid(t, impl.Analyzer{Stops: stops}, false)
	wantValid(t, impl.Analyzer{Synonyms: synonyms}, false)
	wantValid(t, impl.Analyzer{Stops: stops, Synonyms: synonyms[1:]}, false)
	wantValid(t, impl.Analyzer{Stops: stops[1:], Synonyms: synonyms}, false)
	wantValid(t, impl.Analyzer{Stops: make([]string, impl.MaxList+1)}, false)
	wantValid(t, impl.Analyzer{Synonyms: make([]impl.Synonym, impl.MaxList+1)}, false)
	for i := range impl.MaxStops {
		wrong := slices.Clone(stops[1:])
		wrong[i] = ""
		wantValid(t, impl.Analyzer{Stops: wrong}, false)
		self := slices.Clone(synonyms[1:])
		self[i].To = "a"
		wantValid(t, impl.Analyzer{Synonyms: self}, false)
	}
}

func TestAnalyzerGramSizes(t *testing.T) {
	for _, lo := range oddSizes {
		for _, hi := range oddSizes {
			want := lo == 0 && hi == 0 || 1 <= lo && lo <= hi && hi <= 8
			wantValid(t, impl.Analyzer{Lo: lo, Hi: hi}, want)
		}
	}
	for lo := -2; lo <= 10; lo++ {
		for hi := -2; hi <= 10; hi++ {
			wantValid(t, impl.Analyzer{Fold: true, Stem: true, Phone: true, Lo: lo, Hi: hi}, validOf(impl.Analyzer{Lo: lo, Hi: hi}))
		}
	}
}

// Of two faults the one that the document names first gives the code.
func TestAnalyzeFaultsInOrder(t *testing.T) {
	bad := impl.Analyzer{Lo: 1}
	long := strings.Repeat("a", impl.MaxText+1)
	words := strings.Repeat("a ", impl.MaxTokens+1)
	single := impl.Analyzer{Lo: 1, Hi: 1}
	wide := strings.Repeat("a", impl.MaxList+1)
	for _, c := range []struct {
		a    impl.Analyzer
		text string
		code int
	}{
		{impl.Analyzer{}, long, impl.ErrLong}, {bad, long, impl.ErrLong}, {bad, long + "\xff", impl.ErrLong}, {impl.Analyzer{}, long + "\xff", impl.ErrLong},
		{bad, "", impl.ErrBad}, {bad, "a", impl.ErrBad}, {bad, "\xff", impl.ErrBad}, {bad, words, impl.ErrBad}, {bad, wide, impl.ErrBad}, {bad, strings.Repeat("a", impl.MaxText), impl.ErrBad},
		{impl.Analyzer{}, "\xff", impl.ErrForm}, {impl.Analyzer{}, words + "\xff", impl.ErrForm}, {single, wide + "\xc3", impl.ErrForm}, {impl.Analyzer{Fold: true}, "a\xed\xa0\x80", impl.ErrForm},
		{impl.Analyzer{}, words, impl.ErrMany}, {impl.Analyzer{Stops: []string{"a"}}, words, impl.ErrMany}, {single, wide, impl.ErrMany},
		{impl.Analyzer{Stops: []string{""}}, "a", impl.ErrBad}, {impl.Analyzer{Synonyms: []impl.Synonym{{From: "a", To: "a"}}}, "a\xff", impl.ErrBad},
	} {
		wantTerms(t, c.a, c.text, nil, c.code)
	}
}
