package tests

import (
	"fmt"
	"math/rand"
	"strings"
	"testing"

	"loop.example/g00018/impl"
)

func wantWildcard(t *testing.T, pattern string, want impl.Dfa) {
	t.Helper()
	d, code := impl.Wildcard(pattern)
	wantDfa(t, "Wildcard of "+short(pattern), d, code, want)
}

func wantNoWildcard(t *testing.T, pattern string, wantCode int) {
	t.Helper()
	d, code := impl.Wildcard(pattern)
	wantNoDfa(t, "Wildcard of "+short(pattern), d, code, wantCode)
}

func wantLike(t *testing.T, pattern, s string, want bool, wantCode int) {
	t.Helper()
	if ok, code := impl.LikeText(pattern, s); ok != want || code != wantCode {
		t.Errorf("LikeText of %s and %s: %v, code %d, want %v, code %d", short(pattern), short(s), ok, code, want, wantCode)
	}
}

func TestWildcardWritten(t *testing.T) {
	for _, c := range []struct {
		pattern string
		want    impl.Dfa
	}{
		{"", dfaOf(dfaState(true, -1))},
		{"a", dfaOf(dfaState(false, -1, 'a', 1), dfaState(true, -1))},
		{"?", dfaOf(dfaState(false, 1), dfaState(true, -1))},
		{"*", dfaOf(dfaState(true, 0))},
		{"**", dfaOf(dfaState(true, 0))},
		{"*?", dfaOf(dfaState(false, 1), dfaState(true, 1))},
		{"?*", dfaOf(dfaState(false, 1), dfaState(true, 1))},
		{"*?*?*", dfaOf(dfaState(false, 1), dfaState(false, 2), dfaState(true, 2))},
		{"\\", dfaOf(dfaState(false, -1, '\\', 1), dfaState(true, -1))},
		{"\\\\", dfaOf(dfaState(false, -1, '\\', 1), dfaState(true, -1))},
		{"\\*", dfaOf(dfaState(false, -1, '*', 1), dfaState(true, -1))},
		{"\\?", dfaOf(dfaState(false, -1, '?', 1), dfaState(true, -1))},
		{"\\a", dfaOf(dfaState(false, -1, 'a', 1), dfaState(true, -1))},
		{"\\\u4e2d", dfaOf(dfaState(false, -1, 0x4e2d, 1), dfaState(true, -1))},
		{"*\\", dfaOf(dfaState(false, 0, '\\', 1), dfaState(true, 0, '\\', 1))},
		{"\\*\\", dfaOf(dfaState(false, -1, '*', 1), dfaState(false, -1, '\\', 2), dfaState(true, -1))},
		{"\\\\*", dfaOf(dfaState(false, -1, '\\', 1), dfaState(true, 1))},
		{"\U0001f600*", dfaOf(dfaState(false, -1, 0x1f600, 1), dfaState(true, 1))},
		{"ab", dfaOf(dfaState(false, -1, 'a', 1), dfaState(false, -1, 'b', 2), dfaState(true, -1))},
		{"*ab", dfaOf(dfaState(false, 0, 'a', 1), dfaState(false, 0, 'a', 1, 'b', 2), dfaState(true, 0, 'a', 1))},
		{"*b*a", dfaOf(dfaState(false, 0, 'b', 1), dfaState(false, 1, 'a', 2), dfaState(true, 1, 'a', 2))},
		{"a*a", dfaOf(dfaState(false, -1, 'a', 1), dfaState(false, 1, 'a', 2), dfaState(true, 1, 'a', 2))},
		{"*a?", dfaOf(
			dfaState(false, 0, 'a', 1), dfaState(false, 3, 'a', 2),
			dfaState(true, 3, 'a', 2), dfaState(true, 0, 'a', 1))},
		{"*a?*", dfaOf(dfaState(false, 0, 'a', 1), dfaState(false, 2), dfaState(true, 2))},
	} {
		wantWildcard(t, c.pattern, c.want)
	}
}

// Every short pattern: its automaton is the least one, and what it accepts is what
// LikeText says and what the words of the document mean.
func TestWildcardOfEveryShortPattern(t *testing.T) {
	texts := textsUpTo(4, "ab*?\\")
	for _, pattern := range textsUpTo(4, "ab*?\\") {
		wantWildcard(t, pattern, patternMachine(pattern).least())
		d, _ := impl.Wildcard(pattern)
		for _, s := range texts {
			want := fitsPattern(pattern, s)
			ok, code := impl.LikeText(pattern, s)
			accepts, _ := impl.Accepts(d, s)
			if code != impl.OK || ok != want || accepts != want {
				t.Fatalf("pattern %q, text %q: LikeText %v, code %d, Accepts %v, want %v", pattern, s, ok, code, accepts, want)
			}
		}
	}
}

func TestWildcardOfLongerPatterns(t *testing.T) {
	r := rand.New(rand.NewSource(5))
	letters := []string{"a*?", "ab*?", "aab?", "aaa*??", "abc\\*?", "\u00e9\u4e2d*?", "aaaab*", "a??", "ab???"}
	refused := 0
	for range 1500 {
		chars := []rune(letters[r.Intn(len(letters))])
		var pattern strings.Builder
		if r.Intn(2) == 0 {
			pattern.WriteByte('*')
		}
		for range 4 + r.Intn(14) {
			pattern.WriteRune(chars[r.Intn(len(chars))])
		}
		p := pattern.String()
		anys := 0
		for _, token := range tokensOf(p) {
			if token == oneToken {
				anys++
			}
		}
		if anys > impl.MaxAny {
			wantNoWildcard(t, p, impl.ErrRange)
			continue
		}
		d, code := impl.Wildcard(p)
		want := patternMachine(p).least()
		wantDfa(t, "Wildcard of "+short(p), d, code, want)
		if code == impl.ErrMany {
			refused++
			continue
		}
		for range 40 {
			s := textNear(r, p, chars)
			fits := fitsPattern(p, s)
			wantLike(t, p, s, fits, impl.OK)
			wantAccepts(t, d, s, fits, impl.OK)
		}
	}
	if refused == 0 {
		t.Error("no pattern was refused")
	}
}

// textNear fills a pattern in, and now and then changes a character.
func textNear(r *rand.Rand, pattern string, chars []rune) string {
	var text strings.Builder
	for _, token := range tokensOf(pattern) {
		count := 1
		if token == runToken {
			count = r.Intn(3)
		}
		if r.Intn(25) == 0 {
			count = r.Intn(3)
		}
		for range count {
			if token < 0 || r.Intn(25) == 0 {
				text.WriteRune(chars[r.Intn(len(chars))])
			} else {
				text.WriteRune(rune(token))
			}
		}
	}
	return text.String()
}

func TestWildcardBounds(t *testing.T) {
	full := strings.Repeat("a", impl.MaxPattern)
	wantWildcard(t, full, patternMachine(full).least())
	wantNoWildcard(t, full+"a", impl.ErrRange)
	wide := strings.Repeat("\u4e2d", impl.MaxPattern)
	wantWildcard(t, wide, patternMachine(wide).least())
	wantNoWildcard(t, wide+"\u4e2d", impl.ErrRange)
	wantWildcard(t, strings.Repeat("*", impl.MaxPattern), allTexts())
	wantNoWildcard(t, strings.Repeat("*", impl.MaxPattern+1), impl.ErrRange)
	// A backslash is a character of the pattern too.
	taken := strings.Repeat("\\?", impl.MaxPattern/2)
	wantWildcard(t, taken, patternMachine(taken).least())
	wantNoWildcard(t, taken+"\\", impl.ErrRange)
	wantNoWildcard(t, strings.Repeat("\\\\", impl.MaxPattern/2)+"a", impl.ErrRange)
}

func TestWildcardOfManyAny(t *testing.T) {
	most := strings.Repeat("?", impl.MaxAny)
	wantWildcard(t, most, patternMachine(most).least())
	wantNoWildcard(t, most+"?", impl.ErrRange)
	wantNoWildcard(t, "?*?*?*?*?*?*?*?*?", impl.ErrRange)
	for _, pattern := range []string{most + "\\?", "\\?" + most, most + "\\?\\?\\?", "*" + most + "*\\?", "\\\\" + most} {
		wantWildcard(t, pattern, patternMachine(pattern).least())
	}
	// The second backslash is taken by the first: the `?` stands for one character.
	wantNoWildcard(t, "\\\\?"+most, impl.ErrRange)
	wantNoWildcard(t, most+"\\\\?", impl.ErrRange)
}

func TestWildcardOfManyStates(t *testing.T) {
	just := patternMachine("*a???????").least()
	if len(just.States) != impl.MaxDfa {
		t.Fatalf("%d states", len(just.States))
	}
	wantWildcard(t, "*a???????", just)
	for _, pattern := range []string{"b*a???????", "?*a???????", "*a????????", "*a???????b", "*b???????aaaaaab", "a*b*a????????"} {
		if want := patternMachine(pattern).least(); len(want.States) <= impl.MaxDfa {
			t.Fatalf("%q: %d states", pattern, len(want.States))
		}
		wantNoWildcard(t, pattern, impl.ErrMany)
	}
	if n := len(patternMachine("b*a???????").least().States); n != impl.MaxDfa+1 {
		t.Fatalf("%d states", n)
	}
	// Here many sets of places accept the same, or one accepts nothing: what counts
	// is the least automaton.
	for pattern, states := range map[string]int{
		"*a????????*": 10, "*a????????*b": 11, "*a????*a????*": 11, "*ab????????*": 11, "*?a???????*": 10,
		"*a????*b????": 37, "*a?????aaa?aa??*": 150, "*a??aa???aaa?a?aaaaa?*": 254,
		"xxxxxxxxxxxxxxxx*a?????a?aa": impl.MaxDfa,
	} {
		want := patternMachine(pattern).least()
		if len(want.States) != states {
			t.Errorf("%q: %d states, want %d", pattern, len(want.States), states)
		}
		wantWildcard(t, pattern, want)
	}
}

func TestWildcardFaultsInOrder(t *testing.T) {
	long := strings.Repeat("a", impl.MaxText+1)
	for _, c := range []struct {
		pattern string
		code    int
	}{
		{"\xff", impl.ErrForm}, {"a\xc3", impl.ErrForm}, {"\\\xff", impl.ErrForm}, {"\xed\xa0\x80", impl.ErrForm},
		{strings.Repeat("a", impl.MaxPattern+1) + "\xff", impl.ErrForm},
		{strings.Repeat("?", impl.MaxAny+1) + "\xff", impl.ErrForm},
		{strings.Repeat("\xff", impl.MaxText), impl.ErrForm},
		{strings.Repeat("a", impl.MaxText), impl.ErrRange},
		{"*a????????" + strings.Repeat("a", impl.MaxPattern), impl.ErrRange},
		{"*a?????????", impl.ErrRange},
		{long, impl.ErrLong}, {long[1:] + "\xff", impl.ErrLong},
	} {
		wantNoWildcard(t, c.pattern, c.code)
	}
}

func TestLikeTextWritten(t *testing.T) {
	for _, c := range []struct {
		pattern, s string
		want       bool
	}{
		{"", "", true}, {"", "a", false}, {"a", "", false}, {"*", "", true}, {"?", "", false},
		{"a*b", "ab", true}, {"a*b", "aXYb", true}, {"a*b", "a", false}, {"a*a", "a", false}, {"aa*aa", "aaa", false}, {"aa*aa", "aaaa", true},
		{"?", "\u4e2d", true}, {"??", "\u4e2d", false}, {"*\u00e9", "caf\u00e9", true}, {"caf?", "caf\u00e9", true},
		{"\\", "\\", true}, {"\\\\", "\\", true}, {"\\\\", "\\\\", false}, {"a\\", "a\\", true}, {"a\\", "a", false},
		{"\\*", "*", true}, {"\\*", "", false}, {"\\?", "?", true}, {"\\?", "a", false}, {"\\a", "a", true}, {"\\a", "\\a", false},
		{"*.go", "l05_automata.go", true}, {"*.go", "go", false}, {"l??_*", "l05_automata.go", true},
		{"*ab*ab*", "abab", true}, {"*ab*ab*", "aab", false}, {"*aba*", "abba", false}, {"*a?a*", "xabay", true},
		{"*abab*", "aabab", true}, {"*ab?ab*b", "ababbabb", true},
	} {
		wantLike(t, c.pattern, c.s, c.want, impl.OK)
	}
}

// What an automaton could not hold LikeText can.
func TestLikeTextOfLongPatterns(t *testing.T) {
	a := strings.Repeat("a", impl.MaxText)
	marks := strings.Repeat("?", impl.MaxText)
	wantLike(t, strings.Repeat("?", impl.MaxAny+1), strings.Repeat("x", impl.MaxAny+1), true, impl.OK)
	wantLike(t, "*a????????", "xa12345678", true, impl.OK)
	wantLike(t, "*a????????", "xa1234567", false, impl.OK)
	wantLike(t, strings.Repeat("ab", impl.MaxPattern), strings.Repeat("ab", impl.MaxPattern), true, impl.OK)
	wantLike(t, a, a, true, impl.OK)
	wantLike(t, marks, a, true, impl.OK)
	wantLike(t, marks, a[1:], false, impl.OK)
	wantLike(t, a[1:], a, false, impl.OK)
	wantLike(t, strings.Repeat("*", impl.MaxText), a, true, impl.OK)
	wantLike(t, strings.Repeat("*a", impl.MaxText/2), a, true, impl.OK)
	wantLike(t, strings.Repeat("a*", impl.MaxText/2-1)+"b", a, false, impl.OK)
	wantLike(t, strings.Repeat("\\a", impl.MaxText/2), a[impl.MaxText/2:], true, impl.OK)
	wantLike(t, "*"+a[1:], a, true, impl.OK)
	wantLike(t, "*"+a[:20000]+"b*", a, false, impl.OK)
	wantLike(t, "*"+a[:20000]+"?*"+a[:20000]+"*", a, true, impl.OK)
}

func TestLikeTextFaultsInOrder(t *testing.T) {
	full := strings.Repeat("a", impl.MaxText)
	for _, c := range []struct {
		pattern, s string
		code       int
	}{
		{"\xff", "", impl.ErrForm}, {"", "\xff", impl.ErrForm}, {"*", "a\x80", impl.ErrForm}, {"\\\xff", "a", impl.ErrForm}, {"\xff", "\xff", impl.ErrForm},
		{full, full[1:] + "\xff", impl.ErrForm}, {full[1:] + "\xff", full, impl.ErrForm},
		{full + "a", "a", impl.ErrLong}, {"*", full + "a", impl.ErrLong}, {"\xff", full + "a", impl.ErrLong}, {full + "a", "\xff", impl.ErrLong}, {full + "\xff", full + "\xff", impl.ErrLong},
	} {
		wantLike(t, c.pattern, c.s, false, c.code)
	}
}

// Patterns of the same meaning have the same automaton.
func TestWildcardOfEqualPatterns(t *testing.T) {
	for _, same := range [][]string{
		{"*", "**", "***"}, {"?*", "*?", "**?**"}, {"??*", "?*?", "*??", "*?*?*"}, {"a", "\\a"}, {"\\", "\\\\"}, {"a**b", "a*b", "\\a*\\b"},
		{"*a?*", "*a*?*", "*a*?"}, {"?*a", "*?a", "?**a"},
	} {
		first, _ := impl.Wildcard(same[0])
		for _, pattern := range same[1:] {
			wantWildcard(t, pattern, first)
		}
	}
	seen := map[string]string{}
	for _, pattern := range textsUpTo(4, "ab*?") {
		d, _ := impl.Wildcard(pattern)
		key, accepts := fmt.Sprint(d), ""
		for _, s := range textsUpTo(5, "abc") {
			if ok, _ := impl.LikeText(pattern, s); ok {
				accepts += "1"
			} else {
				accepts += "0"
			}
		}
		if known, ok := seen[key]; ok && known != accepts {
			t.Errorf("%q has an automaton that another pattern of other texts has", pattern)
		}
		seen[key] = accepts
	}
}
