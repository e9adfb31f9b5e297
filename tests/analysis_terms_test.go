package tests

import (
	"math/rand"
	"slices"
	"strings"
	"testing"

	"loop.example/g00018/impl"
)

func TestAnalyzePlaces(t *testing.T) {
	a := impl.Analyzer{Fold: true, Stem: true, Stops: []string{"the"}, Synonyms: []impl.Synonym{{From: "cats", To: "felines"}, {From: "cats", To: "cat"}}}
	want := []impl.Token{{Text: "cat", Pos: 1, From: 4, To: 8}, {Text: "feline", Pos: 1, From: 4, To: 8}, {Text: "house", Pos: 3, From: 14, To: 19}}
	wantTerms(t, a, "The Cats, the house", want, impl.OK)
	want = []impl.Token{{Text: "ete", Pos: 0, From: 1, To: 6}, {Text: "\u4e2d", Pos: 1, From: 6, To: 9}, {Text: "it's", Pos: 3, From: 14, To: 18}}
	wantTerms(t, a, "_\u00c9t\u00c9\u4e2d the it's'", want, impl.OK)
	wantTerms(t, a, "", nil, impl.OK)
	wantTerms(t, a, " ,.' ", nil, impl.OK)
	wantTerms(t, a, "the The THE", nil, impl.OK)
	wantTerms(t, impl.Analyzer{}, "The the", []impl.Token{{Text: "The", Pos: 0, From: 0, To: 3}, {Text: "the", Pos: 1, From: 4, To: 7}}, impl.OK)
}

// Stop words and synonyms are asked for the word as it is folded, ahead of its
// endings being cut; they themselves are taken as they stand.
func TestAnalyzeAsksTheFoldedWord(t *testing.T) {
	cats := []impl.Synonym{{From: "cats", To: "dogs"}, {From: "Cats", To: "Dogs"}, {From: "cat", To: "cow"}}
	wantTexts(t, impl.Analyzer{Synonyms: cats}, "Cats cats CATS cat", "0:Cats 0:Dogs 1:cats 1:dogs 2:CATS 3:cat 3:cow")
	wantTexts(t, impl.Analyzer{Fold: true, Synonyms: cats}, "Cats C\u00c0ts", "0:cats 0:dogs 1:cats 1:dogs")
	wantTexts(t, impl.Analyzer{Fold: true, Stem: true, Synonyms: cats}, "Cats", "0:cat 0:dog")
	wantTexts(t, impl.Analyzer{Stem: true, Synonyms: cats}, "Cats", "0:Cats 0:Dogs")
	wantTexts(t, impl.Analyzer{Stops: []string{"the", "cats"}}, "The the cats cat", "0:The 3:cat")
	wantTexts(t, impl.Analyzer{Fold: true, Stops: []string{"The", "cats"}}, "The the Cats cat", "0:the 1:the 3:cat")
	wantTexts(t, impl.Analyzer{Stem: true, Stops: []string{"cat"}}, "cats cat", "0:cat")
	wantTexts(t, impl.Analyzer{Phone: true, Stops: []string{"c300", "t000"}}, "cat t to", "0:c300 1:t000 2:t000")
	wantTexts(t, impl.Analyzer{Lo: 1, Hi: 1, Stops: []string{"a"}}, "ab a ba", "0:a 0:b 2:b 2:a")
	// a stop word has no synonyms, and a synonym may be a stop word
	wantTexts(t, impl.Analyzer{Stops: []string{"a", "b"}, Synonyms: []impl.Synonym{{From: "a", To: "x"}, {From: "c", To: "b"}}}, "a b c", "2:c 2:b")
	// a synonym's synonym is not asked for
	wantTexts(t, impl.Analyzer{Synonyms: []impl.Synonym{{From: "a", To: "b"}, {From: "b", To: "c"}}}, "a b", "0:a 0:b 1:b 1:c")
	// what a synonym puts in is not folded and not broken into words
	wantTexts(t, impl.Analyzer{Fold: true, Synonyms: []impl.Synonym{{From: "ny", To: "New York"}, {From: "ny", To: "\u00c9"}}}, "NY", "0:ny 0:New York 0:\u00c9")
}

func TestAnalyzeSteps(t *testing.T) {
	running := []impl.Synonym{{From: "running", To: "jogging"}, {From: "running", To: "racing"}}
	wantTexts(t, impl.Analyzer{Stem: true, Synonyms: running}, "running", "0:run 0:jog 0:rac")
	wantTexts(t, impl.Analyzer{Synonyms: running}, "running", "0:running 0:jogging 0:racing")
	wantTexts(t, impl.Analyzer{Phone: true, Synonyms: running}, "running", "0:r552 0:j252 0:r252")
	wantTexts(t, impl.Analyzer{Stem: true, Phone: true, Synonyms: running}, "running", "0:r500 0:j200 0:r200")
	wantTexts(t, impl.Analyzer{Stem: true, Lo: 2, Hi: 3, Synonyms: running}, "running", "0:ru 0:run 0:un 0:jo 0:jog 0:og 0:ra 0:rac 0:ac")
	wantTexts(t, impl.Analyzer{Phone: true, Lo: 4, Hi: 8}, "running", "0:r552")
	wantTexts(t, impl.Analyzer{Phone: true, Lo: 5, Hi: 8}, "running", "")
	// a word that has no sound stays as it is
	wantTexts(t, impl.Analyzer{Phone: true}, "12 \u4e2d b12 \u0416", "0:12 1:\u4e2d 2:b000 3:\u0416")
	wantTexts(t, impl.Analyzer{Phone: true, Lo: 2, Hi: 2}, "123 \u4e2d", "0:12 0:23")
	wantTexts(t, impl.Analyzer{Fold: true, Phone: true}, "\u0416 \u00c9", "0:\u0436 1:e000")
	// a word that is too short for grams gives none
	wantTexts(t, impl.Analyzer{Lo: 3, Hi: 3}, "ab abc abcd", "1:abc 2:abc 2:bcd")
	wantTexts(t, impl.Analyzer{Stem: true, Lo: 4, Hi: 4}, "cats", "")
	wantTexts(t, impl.Analyzer{Lo: 2, Hi: 2}, "it's", "0:it 0:t' 0:'s")
}

// No text is told twice of one word, but well of two.
func TestAnalyzeTellsNoTextTwice(t *testing.T) {
	wantTexts(t, impl.Analyzer{Synonyms: []impl.Synonym{{From: "a", To: "b"}, {From: "a", To: "b"}}}, "a a b", "0:a 0:b 1:a 1:b 2:b")
	wantTexts(t, impl.Analyzer{Stem: true, Synonyms: []impl.Synonym{{From: "cats", To: "cat"}, {From: "cats", To: "dog"}, {From: "cats", To: "dogs"}}}, "cats", "0:cat 0:dog")
	wantTexts(t, impl.Analyzer{Phone: true, Synonyms: []impl.Synonym{{From: "robert", To: "rupert"}, {From: "robert", To: "bob"}}}, "robert robert", "0:r163 0:b100 1:r163 1:b100")
	wantTexts(t, impl.Analyzer{Lo: 1, Hi: 2}, "aaaa aab", "0:a 0:aa 1:a 1:aa 1:ab 1:b")
	wantTexts(t, impl.Analyzer{Lo: 2, Hi: 2, Synonyms: []impl.Synonym{{From: "abc", To: "cab"}}}, "abc", "0:ab 0:bc 0:ca")
	wantTexts(t, impl.Analyzer{Fold: true, Synonyms: []impl.Synonym{{From: "a", To: "A"}, {From: "a", To: "b"}}}, "A", "0:a 0:A 0:b")
}

func TestAnalyzeLongTerms(t *testing.T) {
	full := strings.Repeat("a", impl.MaxTerm)
	wantTerms(t, impl.Analyzer{}, full+" "+full+"b c", []impl.Token{{Text: full, Pos: 0, From: 0, To: 64}, {Text: "c", Pos: 2, From: 131, To: 132}}, impl.OK)
	// folding may bring a word down to a term's length
	accents := strings.Repeat("\u00e9", impl.MaxTerm)
	wantTerms(t, impl.Analyzer{}, accents, nil, impl.OK)
	wantTerms(t, impl.Analyzer{Fold: true}, accents, []impl.Token{{Text: strings.Repeat("e", 64), From: 0, To: 128}}, impl.OK)
	wantTerms(t, impl.Analyzer{Fold: true}, accents+"\u00e9", nil, impl.OK)
	// 65 letters are no word that has a stem; 64 are, and may be put right again
	wantTerms(t, impl.Analyzer{Stem: true}, full+"s", nil, impl.OK)
	wantTerms(t, impl.Analyzer{Stem: true}, full[1:]+"s", []impl.Token{{Text: full[1:], From: 0, To: 64}}, impl.OK)
	// a long word sounds, and has grams
	wantTerms(t, impl.Analyzer{Phone: true, Stem: true}, full+"s", []impl.Token{{Text: "a200", From: 0, To: 65}}, impl.OK)
	wantTerms(t, impl.Analyzer{Stem: true, Lo: 8, Hi: 8}, full+"s", []impl.Token{{Text: "aaaaaaaa", From: 0, To: 65}, {Text: "aaaaaaas", From: 0, To: 65}}, impl.OK)
	// a long word's synonym can't be asked for, a word's long synonym is told
	wantTerms(t, impl.Analyzer{Synonyms: []impl.Synonym{{From: full, To: "b"}, {From: "b", To: full}}}, full+" b", []impl.Token{
		{Text: full, Pos: 0, From: 0, To: 64}, {Text: "b", Pos: 0, From: 0, To: 64}, {Text: "b", Pos: 1, From: 65, To: 66}, {Text: full, Pos: 1, From: 65, To: 66},
	}, impl.OK)
	wantTerms(t, impl.Analyzer{Lo: 8, Hi: 8}, strings.Repeat("\u0436", impl.MaxTerm), []impl.Token{{Text: strings.Repeat("\u0436", 8), From: 0, To: 128}}, impl.OK)
}

func wantCount(t *testing.T, a impl.Analyzer, text string, want, wantCode int) {
	t.Helper()
	if list, code := impl.Analyze(a, text); code != wantCode || len(list) != want {
		t.Errorf("Analyze of %s by %s: %d terms, code %d, want %d, code %d", short(text), shortAnalyzer(a), len(list), code, want, wantCode)
	}
}

func TestAnalyzeAtTheMost(t *testing.T) {
	twice := impl.Analyzer{Synonyms: []impl.Synonym{{From: "a", To: "b"}}}
	wantCount(t, twice, strings.Repeat("a ", impl.MaxTokens/2), impl.MaxTokens, impl.OK)
	wantCount(t, twice, strings.Repeat("a ", impl.MaxTokens/2)+"c", 0, impl.ErrMany)
	wantCount(t, twice, "c "+strings.Repeat("a ", impl.MaxTokens/2), 0, impl.ErrMany)
	wantCount(t, twice, "c "+strings.Repeat("a ", impl.MaxTokens/2-1)+"c", impl.MaxTokens, impl.OK)
	wantCount(t, twice, strings.Repeat("a ", impl.MaxTokens), 0, impl.ErrMany)
	// only what is told counts, but every word counts for Break
	same := impl.Analyzer{Stem: true, Synonyms: []impl.Synonym{{From: "cats", To: "cat"}}}
	wantCount(t, same, strings.Repeat("cats ", impl.MaxTokens), impl.MaxTokens, impl.OK)
	wantCount(t, impl.Analyzer{Stops: []string{"a"}, Synonyms: twice.Synonyms}, strings.Repeat("a ", impl.MaxTokens), 0, impl.OK)
	wantCount(t, impl.Analyzer{Stops: []string{"a"}}, strings.Repeat("a ", impl.MaxTokens+1), 0, impl.ErrMany)
	wantCount(t, impl.Analyzer{Lo: 2, Hi: 2}, strings.Repeat("a ", impl.MaxTokens), 0, impl.OK)
}

func TestAnalyzeAtTheMostGrams(t *testing.T) {
	single := impl.Analyzer{Lo: 1, Hi: 1}
	wantCount(t, single, strings.Repeat("a", impl.MaxList), 1, impl.OK)
	wantCount(t, single, strings.Repeat("a", impl.MaxList+1), 0, impl.ErrMany)
	wantCount(t, single, "b "+strings.Repeat("a", impl.MaxList+1)+" b", 0, impl.ErrMany)
	// grams that are all different
	eight := impl.Analyzer{Lo: 8, Hi: 8}
	first, second := differentLetters(impl.MaxList+7, 1), differentLetters(impl.MaxList+7, 2)
	wantCount(t, eight, first, impl.MaxList, impl.OK)
	wantCount(t, eight, first+"x", 0, impl.ErrMany)
	wantCount(t, eight, first+" "+second, impl.MaxTokens, impl.OK)
	wantCount(t, eight, first+" abcdefg "+second, impl.MaxTokens, impl.OK)
	wantCount(t, eight, first+" abcdefgh "+second, 0, impl.ErrMany)
	wantCount(t, eight, "abcdefgh "+first+" "+second, 0, impl.ErrMany)
	// ahead of the grams a stop word is gone, and a sound is short
	wantCount(t, impl.Analyzer{Phone: true, Lo: 1, Hi: 1}, strings.Repeat("a", impl.MaxText), 2, impl.OK)
}

// differentLetters tells a word in which no eight letters come twice.
func differentLetters(length, seed int) string {
	source := rand.New(rand.NewSource(int64(seed)))
	letters := make([]byte, length)
	for i := range letters {
		letters[i] = byte('a' + source.Intn(26))
	}
	return string(letters)
}

// Words that come together in all ways with folding, stems, sounds, grams and synonyms.
var wordStock = []string{
	"cats", "Cats", "cat", "C\u00c0TS", "the", "The", "THE", "running", "runs", "run", "Robert", "rupert", "\u00c9t\u00e9", "ete", "12", "1b", "it's", "its",
	"\u4e2d", "\u6587", "\u0416\u0436", "\u0436\u0436", "a", "A", "b", "happily", "happi", "ladies", strings.Repeat("a", 64), strings.Repeat("a", 63) + "s", strings.Repeat("ab", 33), "aaaa", "x_1",
}

func randomAnalyzer(source *rand.Rand) impl.Analyzer {
	a := impl.Analyzer{Fold: source.Intn(2) == 0, Stem: source.Intn(2) == 0, Phone: source.Intn(4) == 0}
	pick := func() string {
		word := wordStock[source.Intn(len(wordStock))]
		if source.Intn(2) == 0 {
			word = foldedOf(word)
		}
		return word[:min(len(word), 64)]
	}
	for range source.Intn(4) {
		a.Stops = append(a.Stops, pick())
	}
	for range source.Intn(8) {
		if from, to := pick(), pick(); from != to {
			a.Synonyms = append(a.Synonyms, impl.Synonym{From: from, To: to})
		}
	}
	if source.Intn(3) == 0 {
		a.Lo = 1 + source.Intn(8)
		a.Hi = a.Lo + source.Intn(9-a.Lo)
	}
	return a
}

func randomText(source *rand.Rand) string {
	var text strings.Builder
	for range source.Intn(12) {
		text.WriteString(wordStock[source.Intn(len(wordStock))])
		text.WriteString([]string{" ", ", ", "'", "_", "-", " '", ""}[source.Intn(7)])
	}
	return text.String()
}

func TestAnalyzeAgainstTheDefinition(t *testing.T) {
	source := rand.New(rand.NewSource(5))
	for range 20000 {
		a, text := randomAnalyzer(source), randomText(source)
		want, wantCode := termsOf(a, text)
		wantTerms(t, a, text, want, wantCode)
	}
}

// The terms stand in the order of their words, at their places, and a stop word gives none.
func TestAnalyzeKeepsToItsWords(t *testing.T) {
	source := rand.New(rand.NewSource(6))
	for range 5000 {
		a, text := randomAnalyzer(source), randomText(source)
		words, _ := impl.Break(text)
		list, _ := impl.Analyze(a, text)
		pos := 0
		for _, term := range list {
			if term.Pos < pos || term.Pos >= len(words) {
				t.Fatalf("Analyze of %q by %s: %v behind word %d", text, shortAnalyzer(a), term, pos)
			}
			pos = term.Pos
			word := words[pos]
			if term.From != word.From || term.To != word.To || term.Text == "" || len(term.Text) > impl.MaxTerm {
				t.Fatalf("Analyze of %q by %s: %v of the word %v", text, shortAnalyzer(a), term, word)
			}
			if slices.Contains(a.Stops, ownText(a, word)) {
				t.Fatalf("Analyze of %q by %s: %v of a stop word", text, shortAnalyzer(a), term)
			}
		}
	}
}

// Folding twice is folding once: of every character, of texts, and of what an analyser tells.
func TestFoldingTwiceIsFoldingOnce(t *testing.T) {
	for r := range 1114112 {
		if once := impl.Fold(r); impl.Fold(once) != once {
			t.Fatalf("Fold of %d: %d, then %d", r, once, impl.Fold(once))
		}
	}
	source := rand.New(rand.NewSource(7))
	for range 5000 {
		a, text := randomAnalyzer(source), randomText(source)
		a.Fold = true
		folded, _ := impl.FoldText(text)
		wantFolded(t, folded, folded, impl.OK)
		first, _ := impl.Analyze(a, text)
		second, _ := impl.Analyze(a, folded)
		sameTerm := func(x, y impl.Token) bool { return x.Text == y.Text && x.Pos == y.Pos }
		if !slices.EqualFunc(first, second, sameTerm) {
			t.Fatalf("Analyze of %q by %s: %v, of the folded text %v", text, shortAnalyzer(a), first, second)
		}
	}
}
