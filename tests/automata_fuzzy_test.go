package tests

import (
	"fmt"
	"math"
	"math/rand"
	"strings"
	"testing"

	"loop.example/g00018/impl"
)

func wantEdits(t *testing.T, a, b string, want, wantCode int) {
	t.Helper()
	if n, code := impl.Edits(a, b); n != want || code != wantCode {
		t.Errorf("Edits of %s and %s: %d, code %d, want %d, code %d", short(a), short(b), n, code, want, wantCode)
	}
}

func wantFuzzy(t *testing.T, word string, k, head int, want impl.Dfa) {
	t.Helper()
	d, code := impl.Fuzzy(word, k, head)
	wantDfa(t, fmt.Sprintf("Fuzzy of %s, %d, %d", short(word), k, head), d, code, want)
}

func wantNoFuzzy(t *testing.T, word string, k, head, wantCode int) {
	t.Helper()
	d, code := impl.Fuzzy(word, k, head)
	wantNoDfa(t, fmt.Sprintf("Fuzzy of %s, %d, %d", short(word), k, head), d, code, wantCode)
}

func TestEditsWritten(t *testing.T) {
	for _, c := range []struct {
		a, b string
		want int
	}{
		{"", "", 0}, {"a", "", 1}, {"", "abc", 3}, {"kitten", "sitting", 3}, {"saturday", "sunday", 3}, {"flaw", "lawn", 2},
		{"ab", "ba", 2}, {"abc", "abc", 0}, {"abc", "abd", 1}, {"abc", "xyz", 3}, {"aaaa", "aa", 2},
		{"\u00e9", "e", 1}, {"\u00e9", "\u00e8", 1}, {"\u4e2d\u6587", "\u6587", 1}, {"na\u00efve", "naive", 1}, {"\U0001f600", "", 1}, {"\x00", "\x00\x00", 1},
	} {
		wantEdits(t, c.a, c.b, c.want, impl.OK)
		wantEdits(t, c.b, c.a, c.want, impl.OK)
	}
}

// A distance: nought for equal words alone, the same both ways, no longer than by
// way of a third word.
func TestEditsIsADistance(t *testing.T) {
	words := textsUpTo(4, "ab\u00e9")
	edits := make([][]int, len(words))
	for i, a := range words {
		edits[i] = make([]int, len(words))
		for j, b := range words {
			n, code := impl.Edits(a, b)
			if want := knownEdits([]rune(a), []rune(b)); n != want || code != impl.OK {
				t.Fatalf("Edits of %q and %q: %d, code %d, want %d", a, b, n, code, want)
			}
			edits[i][j] = n
		}
	}
	for i, a := range words {
		for j, b := range words {
			if (edits[i][j] == 0) != (a == b) || edits[i][j] != edits[j][i] {
				t.Fatalf("Edits of %q and %q: %d, and %d the other way", a, b, edits[i][j], edits[j][i])
			}
			for by := range words {
				if edits[i][j] > edits[i][by]+edits[by][j] {
					t.Fatalf("Edits of %q and %q: %d, by way of %q %d and %d", a, b, edits[i][j], words[by], edits[i][by], edits[by][j])
				}
			}
		}
	}
}

func TestEditsOfLongWords(t *testing.T) {
	r := rand.New(rand.NewSource(7))
	wordOf := func() string {
		var word strings.Builder
		for range r.Intn(impl.MaxWord + 1) {
			word.WriteRune([]rune("abc\u00e9")[r.Intn(4)])
		}
		return word.String()
	}
	for range 40 {
		a, b := wordOf(), wordOf()
		wantEdits(t, a, b, knownEdits([]rune(a), []rune(b)), impl.OK)
	}
	full, wide := strings.Repeat("a", impl.MaxWord), strings.Repeat("\u4e2d", impl.MaxWord)
	wantEdits(t, full, full, 0, impl.OK)
	wantEdits(t, full, wide, impl.MaxWord, impl.OK)
	wantEdits(t, full, "", impl.MaxWord, impl.OK)
	wantEdits(t, full, full[1:]+"b", 1, impl.OK)
}

func TestEditsFaultsInOrder(t *testing.T) {
	over := strings.Repeat("a", impl.MaxWord+1)
	full := strings.Repeat("a", impl.MaxText)
	for _, c := range []struct {
		a, b string
		code int
	}{
		{"\xff", "", impl.ErrForm}, {"a", "b\xc3", impl.ErrForm}, {"\xed\xa0\x80", "\xff", impl.ErrForm},
		{over, "", impl.ErrRange}, {over, over, impl.ErrRange}, {strings.Repeat("\u4e2d", impl.MaxWord+1), "a", impl.ErrRange},
		{full, "a", impl.ErrRange}, {over, "\xff", impl.ErrForm}, {full[1:] + "\xff", over, impl.ErrForm},
		{full + "a", "", impl.ErrLong}, {full + "a", "\xff", impl.ErrLong}, {full + "\xff", over, impl.ErrLong},
	} {
		wantEdits(t, c.a, c.b, 0, c.code)
		wantEdits(t, c.b, c.a, 0, c.code)
	}
}

func TestFuzzyWritten(t *testing.T) {
	for _, c := range []struct {
		word    string
		k, head int
		want    impl.Dfa
	}{
		{"", 0, 0, dfaOf(dfaState(true, -1))},
		{"", 1, 0, dfaOf(dfaState(true, 1), dfaState(true, -1))},
		{"", 2, 0, dfaOf(dfaState(true, 1), dfaState(true, 2), dfaState(true, -1))},
		{"a", 0, 0, dfaOf(dfaState(false, -1, 'a', 1), dfaState(true, -1))},
		{"a", 0, 1, dfaOf(dfaState(false, -1, 'a', 1), dfaState(true, -1))},
		{"a", 1, 1, dfaOf(dfaState(false, -1, 'a', 1), dfaState(true, 2), dfaState(true, -1))},
		{"a", 1, 0, dfaOf(dfaState(true, 2, 'a', 1), dfaState(true, 3), dfaState(true, -1, 'a', 3), dfaState(true, -1))},
		{"ab", 1, 2, dfaOf(dfaState(false, -1, 'a', 1), dfaState(false, -1, 'b', 2), dfaState(true, 3), dfaState(true, -1))},
		{"\u4e2d", 0, 1, dfaOf(dfaState(false, -1, 0x4e2d, 1), dfaState(true, -1))},
	} {
		wantFuzzy(t, c.word, c.k, c.head, c.want)
	}
}

// Every short word, with every number of changes and every head: the automaton is
// the least one, and accepts just what is as near as Edits says.
func TestFuzzyOfEveryShortWord(t *testing.T) {
	texts := textsUpTo(6, "ab\u00e9")
	for _, word := range textsUpTo(4, "ab") {
		near := make([]int, len(texts))
		for i, s := range texts {
			near[i], _ = impl.Edits(word, s)
		}
		for k := range 3 {
			for head := range len(word) + 1 {
				wantFuzzy(t, word, k, head, nearMachine(word, k, head).least())
				d, _ := impl.Fuzzy(word, k, head)
				for i, s := range texts {
					if ok, code := impl.Accepts(d, s); code != impl.OK || ok != (near[i] <= k && strings.HasPrefix(s, word[:head])) {
						t.Fatalf("Fuzzy of %q, %d, %d accepts %q: %v, code %d; Edits %d", word, k, head, s, ok, code, near[i])
					}
				}
			}
		}
	}
}

func TestFuzzyOfLongerWords(t *testing.T) {
	r := rand.New(rand.NewSource(11))
	letters := []string{"ab", "abc", "abcdefgh", "aab", "\u00e9\u4e2da\U0001f600"}
	refused := 0
	for range 250 {
		chars := []rune(letters[r.Intn(len(letters))])
		var word []rune
		for range 4 + r.Intn(impl.MaxPattern-3) {
			word = append(word, chars[r.Intn(len(chars))])
		}
		k, head := r.Intn(3), r.Intn(len(word)+1)
		if r.Intn(2) == 0 {
			head = 0
		}
		want := nearMachine(string(word), k, head).least()
		d, code := impl.Fuzzy(string(word), k, head)
		wantDfa(t, fmt.Sprintf("Fuzzy of %q, %d, %d", string(word), k, head), d, code, want)
		if code == impl.ErrMany {
			refused++
			continue
		}
		for range 20 {
			s := wordNear(r, word, chars)
			n, _ := impl.Edits(string(word), s)
			wantAccepts(t, d, s, n <= k && strings.HasPrefix(s, string(word[:head])), impl.OK)
		}
	}
	if refused == 0 {
		t.Error("no word was refused")
	}
}

// wordNear makes up to three changes.
func wordNear(r *rand.Rand, word, chars []rune) string {
	text := append([]rune(nil), word...)
	for range r.Intn(4) {
		at := r.Intn(len(text) + 1)
		c := chars[r.Intn(len(chars))]
		switch {
		case at == len(text) || r.Intn(3) == 0:
			text = append(text[:at], append([]rune{c}, text[at:]...)...)
		case r.Intn(2) == 0:
			text[at] = c
		default:
			text = append(text[:at], text[at+1:]...)
		}
	}
	return string(text)
}

func TestFuzzyBounds(t *testing.T) {
	full := strings.Repeat("a", impl.MaxPattern)
	wide := strings.Repeat("\u4e2d", impl.MaxPattern)
	for k := range 3 {
		wantFuzzy(t, full, k, 0, nearMachine(full, k, 0).least())
		wantFuzzy(t, full, k, impl.MaxPattern, nearMachine(full, k, impl.MaxPattern).least())
		wantFuzzy(t, wide, k, 1, nearMachine(wide, k, 1).least())
		wantNoFuzzy(t, full+"a", k, 0, impl.ErrRange)
		wantNoFuzzy(t, wide+"\u4e2d", k, 0, impl.ErrRange)
	}
	for _, n := range []int{math.MinInt, -2, -1, 3, 4, 1 << 32, math.MaxInt} {
		wantNoFuzzy(t, "ab", n, 0, impl.ErrRange)
		wantNoFuzzy(t, "", n, 0, impl.ErrRange)
		wantNoFuzzy(t, "ab", 1, n, impl.ErrRange)
	}
	wantNoFuzzy(t, "", 1, 1, impl.ErrRange)
	// The head is counted in characters, not in bytes.
	wantFuzzy(t, "\u4e2d\u6587", 1, 2, nearMachine("\u4e2d\u6587", 1, 2).least())
	wantNoFuzzy(t, "\u4e2d\u6587", 1, 3, impl.ErrRange)
}

// A text must have the whole head, even if it is near enough without.
func TestFuzzyAsksForTheWholeHead(t *testing.T) {
	d, _ := impl.Fuzzy("cat", 2, 2)
	for s, want := range map[string]bool{"ca": true, "c": false, "": false, "cat": true, "cart": true, "cab": true, "at": false, "cut": false, "cattle": false, "catty": true} {
		wantAccepts(t, d, s, want, impl.OK)
	}
}

func TestFuzzyOfManyStates(t *testing.T) {
	for word, states := range map[string]int{
		"aaaaaababaaaaaabbabbaabba": impl.MaxDfa, "adbdbbdabdacabaadcb": impl.MaxDfa - 1,
		"abcdefghijklmnopqrstuvwxyzABCD": 500,
	} {
		want := nearMachine(word, 2, 0).least()
		if len(want.States) != states && states <= impl.MaxDfa || states > impl.MaxDfa && len(want.States) <= impl.MaxDfa {
			t.Errorf("%q: %d states", word, len(want.States))
		}
		wantFuzzy(t, word, 2, 0, want)
	}
	// One letter more ahead, which must stand there, is one state more.
	just := "xaaaaaababaaaaaabbabbaabba"
	if n := len(nearMachine(just, 2, 1).least().States); n != impl.MaxDfa+1 {
		t.Errorf("%q: %d states", just, n)
	}
	wantNoFuzzy(t, just, 2, 1, impl.ErrMany)
}

func TestFuzzyFaultsInOrder(t *testing.T) {
	over := strings.Repeat("a", impl.MaxPattern+1)
	full := strings.Repeat("a", impl.MaxText)
	for _, c := range []struct {
		word          string
		k, head, code int
	}{
		{"\xff", 0, 0, impl.ErrForm}, {"a\xe4\xb8", 1, 0, impl.ErrForm}, {"\xff", 3, 0, impl.ErrForm}, {"\xff", 0, -1, impl.ErrForm},
		{over + "\xff", 0, 0, impl.ErrForm}, {full[1:] + "\xff", 7, 7, impl.ErrForm},
		{over, 3, 0, impl.ErrRange}, {full, 0, 0, impl.ErrRange}, {"abcdefghijklmnopqrstuvwxyzABCD", 2, 31, impl.ErrRange},
		{full + "a", 0, 0, impl.ErrLong}, {full + "\xff", 3, -1, impl.ErrLong},
	} {
		wantNoFuzzy(t, c.word, c.k, c.head, c.code)
	}
}
