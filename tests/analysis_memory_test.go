package tests

import (
	"slices"
	"strings"
	"testing"

	"loop.example/g00018/impl"
)

func TestStemAndPhoneAnswerNewMemory(t *testing.T) {
	words := append(memoryTexts(), "cats", "run", "running", "happy", "quickly", "Cats", "as", strings.Repeat("a", impl.MaxTerm))
	for _, word := range words {
		if shares(impl.Stem(word), word) {
			t.Errorf("Stem of %s lies in its argument", short(word))
		}
		if shares(impl.Phone(word), word) {
			t.Errorf("Phone of %s lies in its argument", short(word))
		}
	}
}

func TestGramsAnswersNewMemory(t *testing.T) {
	for _, word := range append(memoryTexts(), strings.Repeat("a", impl.MaxList)) {
		first, _ := impl.Grams(word, 1, 1)
		second, _ := impl.Grams(word, 1, 1)
		for _, gram := range first {
			if shares(gram, word) {
				t.Fatalf("Grams of %s: %q lies in its argument", short(word), gram)
			}
		}
		wantApart(t, first, second, "other", "Grams of "+short(word))
	}
}

// memoryAnalyzers have room behind the ends of their lists, where nothing may be written.
func memoryAnalyzers() []impl.Analyzer {
	stops := []string{"the", "plain", "b", "behind", "behind"}[:3]
	synonyms := []impl.Synonym{{From: "a", To: "word"}, {From: "word", To: "words"}, {From: "7", To: "\u00e9"}, {From: "behind", To: "it"}}[:3]
	return []impl.Analyzer{
		{}, {Fold: true}, {Stem: true}, {Phone: true}, {Lo: 1, Hi: 1}, {Stops: stops, Synonyms: synonyms}, {Fold: true, Stops: stops, Synonyms: synonyms, Lo: 1, Hi: 8},
		{Fold: true, Stem: true, Phone: true, Stops: stops, Synonyms: synonyms, Lo: 1, Hi: 2},
	}
}

func TestAnalyzeAnswersNewMemory(t *testing.T) {
	for _, a := range memoryAnalyzers() {
		for _, text := range memoryTexts() {
			first, _ := impl.Analyze(a, text)
			second, _ := impl.Analyze(a, text)
			for _, term := range first {
				if shares(term.Text, text) || inSynonyms(term.Text, a.Synonyms) {
					t.Fatalf("Analyze of %s by %s: %q lies in an argument", short(text), shortAnalyzer(a), term.Text)
				}
			}
			wantApart(t, first, second, impl.Token{Text: "other", Pos: -1}, "Analyze of "+short(text))
		}
	}
}

func inSynonyms(text string, synonyms []impl.Synonym) bool {
	return slices.ContainsFunc(synonyms, func(s impl.Synonym) bool { return shares(text, s.From) || shares(text, s.To) })
}

func TestAnalyzeLeavesItsAnalyzer(t *testing.T) {
	for _, a := range memoryAnalyzers() {
		stops, synonyms := a.Stops[:cap(a.Stops)], a.Synonyms[:cap(a.Synonyms)]
		stopsBefore, synonymsBefore := slices.Clone(stops), slices.Clone(synonyms)
		for _, text := range memoryTexts() {
			impl.AnalyzerOK(a)
			impl.Analyze(a, text)
		}
		if !slices.Equal(stops, stopsBefore) || !slices.Equal(synonyms, synonymsBefore) {
			t.Errorf("Analyze wrote into %s", shortAnalyzer(a))
		}
	}
}

// Pieces of text, cut within characters, as words, in analysers and as texts: each
// call ends without a panic and answers as the document says.
func TestAnalysisOfPiecesOfText(t *testing.T) {
	base := "ing's \u00e9\u4e2dties_\U0001f600\xff\xc3\xe4\xb8 9\x00\xed\xa0\x80ed"
	for from := range len(base) {
		for to := from; to <= len(base); to++ {
			piece := base[from:to]
			wantStem(t, piece, stemOf(piece))
			wantPhone(t, piece, soundOf(piece))
			grams, code := gramsOf(piece, 1, 3)
			wantGrams(t, piece, 1, 3, grams, code)
			for _, a := range []impl.Analyzer{
				{Fold: true, Stem: true}, {Phone: true}, {Lo: 2, Hi: 3}, {Stops: []string{piece}}, {Synonyms: []impl.Synonym{{From: "ed", To: piece}, {From: piece, To: "a"}}},
			} {
				terms, code := termsOf(a, piece+" ed")
				wantTerms(t, a, piece+" ed", terms, code)
			}
		}
	}
}

// However many synonyms and grams come of each word, what is told of all of them
// is bounded, and so is the time.
func TestAnalyzeOfManyAlikeWords(t *testing.T) {
	synonyms := slices.Repeat([]impl.Synonym{{From: "eee", To: strings.Repeat("a", impl.MaxTerm)}}, impl.MaxStops)
	var text strings.Builder
	for i := range 5000 {
		for letters := i; letters < i+3; letters++ {
			text.WriteString([]string{"e", "E", "\u00e9", "\u00c9", "\u00e8"}[letters%5])
		}
		text.WriteString(" ")
	}
	a := impl.Analyzer{Fold: true, Synonyms: synonyms, Lo: 8, Hi: 8}
	wantCount(t, a, text.String(), 5000, impl.OK)
	a.Lo = 7
	wantCount(t, a, text.String(), 0, impl.ErrMany)
}
