package tests

import (
	"math/rand"
	"slices"
	"strings"
	"testing"

	"loop.example/g00018/impl"
)

func wantTermsOf(t *testing.T, a impl.Dfa, d impl.Dict, want []string, wantCode int) {
	t.Helper()
	if list, code := impl.TermsOf(a, d); code != wantCode || !slices.Equal(list, want) {
		t.Errorf("TermsOf of %s and %s: %s, code %d, want %s, code %d", shortDfa(a), shortDict(d), shortTerms(list), code, shortTerms(want), wantCode)
	}
}

// termsIn tells the terms that an automaton accepts, one by one.
func termsIn(a impl.Dfa, terms []string) []string {
	var list []string
	for _, term := range terms {
		if _, ok := formOf(term); ok && accepted(a, term) {
			list = append(list, term)
		}
	}
	return list
}

func TestTermsOfWritten(t *testing.T) {
	terms := []string{"a", "ab", "abc", "b", "caf\u00e9", "cafe", "cat", "cats", "cut", "rat", "\u4e2d", "\u4e2d\u6587"}
	slices.Sort(terms)
	d := automatonOf(terms)
	for pattern, want := range map[string][]string{
		"*": terms, "": nil, "a*": {"a", "ab", "abc"}, "?": {"a", "b", "\u4e2d"}, "caf?": {"cafe", "caf\u00e9"},
		"*t": {"cat", "cut", "rat"}, "??": {"ab", "\u4e2d\u6587"}, "x*": nil, "*\u6587": {"\u4e2d\u6587"},
	} {
		a, _ := impl.Wildcard(pattern)
		wantTermsOf(t, a, d, want, impl.OK)
	}
	near, _ := impl.Fuzzy("cat", 1, 0)
	wantTermsOf(t, near, d, []string{"cat", "cats", "cut", "rat"}, impl.OK)
	near, _ = impl.Fuzzy("cat", 1, 1)
	wantTermsOf(t, near, d, []string{"cat", "cats", "cut"}, impl.OK)
	near, _ = impl.Fuzzy("cafe", 1, 0)
	wantTermsOf(t, near, d, []string{"cafe", "caf\u00e9"}, impl.OK)
	wantTermsOf(t, noTexts(), d, nil, impl.OK)
	wantTermsOf(t, allTexts(), automatonOf(nil), nil, impl.OK)
	wantTermsOf(t, noTexts(), automatonOf(nil), nil, impl.OK)
}

// Terms are any bytes: those that are not well-formed no automaton accepts.
func TestTermsOfWithoutWrongTerms(t *testing.T) {
	terms := []string{"\x80", "a", "a\x80", "\xc3", "\xc3\xa9", "\xc3\xa9\xa9", "\xc0\x80", "\xed\xa0\x80", "\xee\x80\x80", "\xef\xbf\xbd", "\xf0\x9f\x98\x80", "\xf4\x90\x80\x80", "\xff"}
	slices.Sort(terms)
	d := automatonOf(terms)
	wantTermsOf(t, allTexts(), d, []string{"a", "\xc3\xa9", "\xee\x80\x80", "\xef\xbf\xbd", "\xf0\x9f\x98\x80"}, impl.OK)
	one, _ := impl.Wildcard("?")
	wantTermsOf(t, one, d, []string{"a", "\xc3\xa9", "\xee\x80\x80", "\xef\xbf\xbd", "\xf0\x9f\x98\x80"}, impl.OK)
	not, _ := impl.Neither(one)
	wantTermsOf(t, not, d, nil, impl.OK)
	// A wrong byte is not the character that often stands for one.
	mark, _ := impl.Wildcard("\ufffd")
	wantTermsOf(t, mark, d, []string{"\xef\xbf\xbd"}, impl.OK)
}

func TestTermsOfManyTerms(t *testing.T) {
	r := rand.New(rand.NewSource(13))
	terms := wordsUpTo(6, "ab\xc3\xa9")[:impl.MaxList]
	d, code := impl.BuildDict(terms)
	if code != impl.OK {
		t.Fatalf("BuildDict: code %d", code)
	}
	wantTermsOf(t, allTexts(), d, termsIn(allTexts(), terms), impl.OK)
	for range 60 {
		a := anyDfa(r, 1+r.Intn(12), []int{'a', 'b', 0xc3, 0xe9})
		wantTermsOf(t, a, d, termsIn(a, terms), impl.OK)
	}
	long := strings.Repeat("a", impl.MaxTerm)
	wantTermsOf(t, allTexts(), automatonOf([]string{long}), []string{long}, impl.OK)
}

func TestTermsOfWrongOnes(t *testing.T) {
	good := automatonOf([]string{"cat", "cats"})
	wrong := copyDict(good)
	wrong.Count = 3
	for _, d := range []impl.Dict{{}, wrong, {Count: 1, States: []impl.DictState{{Final: true}}}} {
		for _, a := range []impl.Dfa{allTexts(), noTexts(), {}, dfaOf(dfaState(true, 1))} {
			wantTermsOf(t, a, d, nil, impl.ErrBad)
		}
	}
	wantTermsOf(t, impl.Dfa{}, good, nil, impl.ErrBad)
	wantTermsOf(t, chainDfa(impl.MaxDfa+1), good, nil, impl.ErrBad)
	wantTermsOf(t, dfaOf(dfaState(true, 0, 'b', 0, 'a', 0)), good, nil, impl.ErrBad)
	wantTermsOf(t, allTexts(), good, []string{"cat", "cats"}, impl.OK)
}
