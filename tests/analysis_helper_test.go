package tests

import (
	"regexp"
	"slices"
	"strings"
	"testing"

	"loop.example/g00018/impl"
)

// What the document says of analysers, told a second time: stems and sounds by
// patterns, the rest by its words, without looking at how long it takes.

var (
	isWord     = regexp.MustCompile(`^[a-z]{3,64}$`)
	endsSses   = regexp.MustCompile(`sses$`)
	endsIes    = regexp.MustCompile(`ies$`)
	longIes    = regexp.MustCompile(`^([a-z]{2,})ies$`)
	plural     = regexp.MustCompile(`^([a-z]{2,}[^sui])s$`)
	tense      = regexp.MustCompile(`^([a-z]{3,})(?:ing|ed)$`)
	anyVowel   = regexp.MustCompile(`[aeiouy]`)
	doubled    = regexp.MustCompile(`(?:bb|cc|dd|ff|gg|hh|jj|kk|mm|nn|pp|qq|rr|tt|vv|ww|xx)$`)
	wantsE     = regexp.MustCompile(`(?:at|bl|iz)$`)
	manner     = regexp.MustCompile(`^([a-z]{3,})ly$`)
	consonantY = regexp.MustCompile(`^([a-z]+[^aeiouy])y$`)
)

func stemOf(word string) string {
	if len(word) > 65536 {
		return ""
	}
	if !isWord.MatchString(word) {
		return word
	}
	switch {
	case endsSses.MatchString(word):
		word = word[:len(word)-2]
	case endsIes.MatchString(word):
		word = longIes.ReplaceAllString(word, "${1}y")
	default:
		word = plural.ReplaceAllString(word, "$1")
	}
	if m := tense.FindStringSubmatch(word); m != nil && anyVowel.MatchString(m[1]) {
		word = m[1]
		if doubled.MatchString(word) {
			word = word[:len(word)-1]
		} else if wantsE.MatchString(word) {
			word += "e"
		}
	}
	word = manner.ReplaceAllString(word, "$1")
	return consonantY.ReplaceAllString(word, "${1}i")
}

var soundRuns = []struct {
	letters *regexp.Regexp
	digit   string
}{
	{regexp.MustCompile(`[bfpv]+`), "1"},
	{regexp.MustCompile(`[cgjkqsxz]+`), "2"},
	{regexp.MustCompile(`[dt]+`), "3"},
	{regexp.MustCompile(`l+`), "4"},
	{regexp.MustCompile(`[mn]+`), "5"},
	{regexp.MustCompile(`r+`), "6"},
	{regexp.MustCompile(`[aeiouyhw]`), ""},
}

func soundOf(word string) string {
	if len(word) > 65536 {
		return ""
	}
	letters := lettersOf(word)
	if letters == "" {
		return ""
	}
	sounds := letters[:1] + strings.NewReplacer("h", "", "w", "").Replace(letters[1:])
	for _, run := range soundRuns {
		sounds = run.letters.ReplaceAllString(sounds, run.digit)
	}
	if !strings.Contains("aeiouyhw", letters[:1]) {
		sounds = sounds[1:]
	}
	return letters[:1] + (sounds + "000")[:3]
}

// lettersOf tells the folded letters of a text, none if it is not well-formed.
func lettersOf(word string) string {
	var letters strings.Builder
	list, _ := formOf(foldedOf(word))
	for _, r := range list {
		if r >= 'a' && r <= 'z' {
			letters.WriteByte(byte(r))
		}
	}
	return letters.String()
}

var foldTable = foldRows()

func foldedOf(text string) string {
	list, _ := formOf(text)
	var folded strings.Builder
	for _, r := range list {
		folded.WriteRune(rune(r + answerOf(foldTable, r, 0)))
	}
	return folded.String()
}

func gramsOf(word string, lo, hi int) ([]string, int) {
	if len(word) > 65536 {
		return nil, impl.ErrLong
	}
	if _, ok := formOf(word); !ok {
		return nil, impl.ErrForm
	}
	if lo < 1 || hi < lo || hi > 8 {
		return nil, impl.ErrBad
	}
	var list []string
	chars := []rune(word)
	for from := range chars {
		for size := lo; size <= hi && from+size <= len(chars); size++ {
			list = append(list, string(chars[from:from+size]))
		}
	}
	if len(list) > 4096 {
		return nil, impl.ErrMany
	}
	return list, impl.OK
}

func validOf(a impl.Analyzer) bool {
	if len(a.Stops) > 64 || len(a.Synonyms) > 64 {
		return false
	}
	texts := slices.Clone(a.Stops)
	for _, s := range a.Synonyms {
		if s.From == s.To {
			return false
		}
		texts = append(texts, s.From, s.To)
	}
	for _, text := range texts {
		if _, ok := formOf(text); !ok || len(text) == 0 || len(text) > 64 {
			return false
		}
	}
	_, code := gramsOf("", a.Lo, a.Hi)
	return a.Lo == 0 && a.Hi == 0 || code == impl.OK
}

func termsOf(a impl.Analyzer, text string) ([]impl.Token, int) {
	if len(text) > 65536 {
		return nil, impl.ErrLong
	}
	if !validOf(a) {
		return nil, impl.ErrBad
	}
	words, code := impl.Break(text)
	if code != impl.OK {
		return nil, code
	}
	var list []impl.Token
	for _, word := range words {
		texts, code := wordTerms(a, ownText(a, word))
		if code != impl.OK {
			return nil, code
		}
		for _, one := range texts {
			list = append(list, impl.Token{Text: one, Pos: word.Pos, From: word.From, To: word.To})
		}
	}
	if len(list) > 8192 {
		return nil, impl.ErrMany
	}
	return list, impl.OK
}

// ownText tells the form of a word that stop words and synonyms are asked for.
func ownText(a impl.Analyzer, word impl.Token) string {
	if a.Fold {
		return foldedOf(word.Text)
	}
	return word.Text
}

func wordTerms(a impl.Analyzer, own string) ([]string, int) {
	if slices.Contains(a.Stops, own) {
		return nil, impl.OK
	}
	texts := []string{own}
	for _, s := range a.Synonyms {
		if s.From == own {
			texts = append(texts, s.To)
		}
	}
	var told []string
	for _, text := range texts {
		if a.Stem {
			text = stemOf(text)
		}
		if sound := soundOf(text); a.Phone && sound != "" {
			text = sound
		}
		pieces := []string{text}
		if a.Lo != 0 {
			var code int
			if pieces, code = gramsOf(text, a.Lo, a.Hi); code != impl.OK {
				return nil, code
			}
		}
		for _, piece := range pieces {
			if len(piece) <= 64 && !slices.Contains(told, piece) {
				told = append(told, piece)
			}
		}
	}
	return told, impl.OK
}

func wantStem(t *testing.T, word, want string) {
	t.Helper()
	if stem := impl.Stem(word); stem != want {
		t.Errorf("Stem of %s: %s, want %s", short(word), short(stem), short(want))
	}
}

func wantPhone(t *testing.T, word, want string) {
	t.Helper()
	if sound := impl.Phone(word); sound != want {
		t.Errorf("Phone of %s: %s, want %s", short(word), short(sound), short(want))
	}
}

func wantGrams(t *testing.T, word string, lo, hi int, want []string, wantCode int) {
	t.Helper()
	if list, code := impl.Grams(word, lo, hi); code != wantCode || !slices.Equal(list, want) {
		t.Errorf("Grams of %s, %d to %d: %d grams, code %d, want %d grams, code %d", short(word), lo, hi, len(list), code, len(want), wantCode)
	}
}

func wantTerms(t *testing.T, a impl.Analyzer, text string, want []impl.Token, wantCode int) {
	t.Helper()
	list, code := impl.Analyze(a, text)
	if code != wantCode || !slices.Equal(list, want) {
		t.Errorf("Analyze of %s by %s: %d terms, code %d, want %d terms, code %d", short(text), shortAnalyzer(a), len(list), code, len(want), wantCode)
		for i := 0; i < len(list) && i < len(want); i++ {
			if list[i] != want[i] {
				t.Errorf("term %d: %v, want %v", i, list[i], want[i])
				return
			}
		}
	}
}

// wantTexts is for texts whose places are asked for elsewhere: each term is
// written as its Pos, a colon and its text.
func wantTexts(t *testing.T, a impl.Analyzer, text, want string) {
	t.Helper()
	list, code := impl.Analyze(a, text)
	var texts []string
	for _, term := range list {
		texts = append(texts, string(rune('0'+term.Pos))+":"+term.Text)
	}
	if got := strings.Join(texts, " "); code != impl.OK || got != want {
		t.Errorf("Analyze of %s by %s: %s, code %d, want %s", short(text), shortAnalyzer(a), got, code, want)
	}
}
