package tests

import (
	"math"
	"strings"
	"testing"

	"loop.example/g00018/impl"
)

// wantBadDfa is for a Dfa that is none: every call must say so.
func wantBadDfa(t *testing.T, d impl.Dfa, what string) {
	t.Helper()
	if impl.DfaOK(d) {
		t.Errorf("%s: DfaOK of %s: true", what, shortDfa(d))
		return
	}
	for _, s := range []string{"", "a", "\xff", strings.Repeat("a", impl.MaxText)} {
		wantAccepts(t, d, s, false, impl.ErrBad)
	}
	wantAccepts(t, d, strings.Repeat("a", impl.MaxText+1), false, impl.ErrLong)
	for _, good := range []impl.Dfa{allTexts(), chainDfa(impl.MaxDfa)} {
		out, code := impl.Both(d, good)
		wantNoDfa(t, what+": Both", out, code, impl.ErrBad)
		out, code = impl.Both(good, d)
		wantNoDfa(t, what+": Both", out, code, impl.ErrBad)
		out, code = impl.Either(d, good)
		wantNoDfa(t, what+": Either", out, code, impl.ErrBad)
		out, code = impl.Either(good, d)
		wantNoDfa(t, what+": Either", out, code, impl.ErrBad)
	}
	out, code := impl.Neither(d)
	wantNoDfa(t, what+": Neither", out, code, impl.ErrBad)
	for _, dict := range []impl.Dict{automatonOf(nil), automatonOf([]string{"a"}), {}} {
		if list, code := impl.TermsOf(d, dict); code != impl.ErrBad || list != nil {
			t.Errorf("%s: TermsOf: %q, code %d", what, list, code)
		}
	}
}

func TestDfaOfWrongParts(t *testing.T) {
	for _, c := range []struct {
		what string
		d    impl.Dfa
	}{
		{"no states", impl.Dfa{}},
		{"no states", dfaOf()},
		{"Else above the last state", dfaOf(dfaState(true, 1))},
		{"Else above the last state", dfaOf(dfaState(true, 0), dfaState(true, 2))},
		{"Else below -1", dfaOf(dfaState(true, -2))},
		{"To above the last state", dfaOf(dfaState(true, 0, 'a', 1))},
		{"To below -1", dfaOf(dfaState(true, 0, 'a', -2))},
		{"a wrong To behind right ones", dfaOf(dfaState(true, 0, 'a', 0, 'b', -1, 'c', 1))},
		{"arcs out of their order", dfaOf(dfaState(true, 0, 'b', 0, 'a', 0))},
		{"twice the same", dfaOf(dfaState(true, 0, 'a', 0, 'a', 0))},
		{"twice the same, to other states", dfaOf(dfaState(true, 0, 'a', 0, 'b', -1, 'b', 0))},
		{"no character", dfaOf(dfaState(true, 0, -1, 0))},
		{"no character", dfaOf(dfaState(true, 0, 55296, 0))},
		{"no character", dfaOf(dfaState(true, 0, 57343, 0))},
		{"no character", dfaOf(dfaState(true, 0, 1114112, 0))},
		{"no character, amid others", dfaOf(dfaState(true, 0, 97, 0, 56000, 0, 60000, 0))},
		{"a state that is not reached is wrong", dfaOf(dfaState(true, 0), dfaState(true, 0, 'b', 0, 'a', 0))},
	} {
		wantBadDfa(t, c.d, c.what)
	}
	for _, n := range []int{math.MinInt, -1 << 32, -3, 2, 1 << 32, 1<<32 - 1, math.MaxInt} {
		wantBadDfa(t, dfaOf(dfaState(true, n), dfaState(true, 0)), "Else")
		wantBadDfa(t, dfaOf(dfaState(true, 0), dfaState(true, 0, 'a', n)), "To")
		if n < 0 || n > 1114111 {
			wantBadDfa(t, dfaOf(dfaState(true, 0, n, 0)), "Rune")
		}
	}
	wantBadDfa(t, dfaOf(dfaState(true, 0, 1<<32+97, 0)), "Rune that is cut to a letter")
}

func TestDfaOfRightParts(t *testing.T) {
	for _, d := range []impl.Dfa{
		noTexts(), allTexts(), dfaOf(dfaState(false, 0)), dfaOf(dfaState(true, -1)),
		dfaOf(dfaState(true, 0, 'a', 0)),
		dfaOf(dfaState(true, 0, 0, -1, 55295, 0, 57344, -1, 1114111, 0)),
		dfaOf(dfaState(false, -1), dfaState(true, 0)),
		dfaOf(dfaState(false, 1, 'a', 1), dfaState(true, 1, 'b', -1)),
		chainDfa(impl.MaxDfa),
	} {
		if !impl.DfaOK(d) {
			t.Errorf("DfaOK of %s: false", shortDfa(d))
		}
	}
	wantBadDfa(t, chainDfa(impl.MaxDfa+1), "one state too many")
}

func TestAccepts(t *testing.T) {
	// An even number of a, without b, and then perhaps one character above 65535.
	d := dfaOf(
		dfaState(true, 0, 'a', 1, 'b', -1, 0x1f600, 2),
		dfaState(false, 1, 'a', 0, 'b', -1),
		dfaState(true, -1),
	)
	for s, want := range map[string]bool{
		"": true, "a": false, "aa": true, "axa": true, "ab": false, "b": false, "aab": false, "xyz": true,
		"\U0001f600": true, "aa\U0001f600": true, "\U0001f600x": false, "a\U0001f600a": true, "\u00e9": true, "a\u00e9\u4e2da": true, "\x00": true,
	} {
		wantAccepts(t, d, s, want, impl.OK)
	}
	for _, s := range textsUpTo(5, "ab\u00e9\U0001f600") {
		wantAccepts(t, d, s, accepted(d, s), impl.OK)
	}
	for _, s := range []string{"\xff", "a\x80", "\xed\xa0\x80", "\xc0\x80", "\xf4\x90\x80\x80", "b\xff"} {
		wantAccepts(t, d, s, false, impl.ErrForm)
	}
}

// What is asked of a state that was left is nothing: the text is over there.
func TestAcceptsNothingBehindTheEnd(t *testing.T) {
	d := dfaOf(dfaState(true, -1, 'a', 1), dfaState(true, 0, 'b', -1))
	for _, s := range textsUpTo(6, "abc") {
		wantAccepts(t, d, s, accepted(d, s), impl.OK)
	}
}

func TestAcceptsLongTexts(t *testing.T) {
	d := dfaOf(dfaState(false, 1), dfaState(true, 0))
	wantAccepts(t, d, strings.Repeat("a", impl.MaxText), false, impl.OK)
	wantAccepts(t, d, strings.Repeat("a", impl.MaxText-1), true, impl.OK)
	wantAccepts(t, d, strings.Repeat("\u00e9", impl.MaxText/2), false, impl.OK)
	wantAccepts(t, d, strings.Repeat("a", impl.MaxText+1), false, impl.ErrLong)
	wantAccepts(t, d, strings.Repeat("\xff", impl.MaxText), false, impl.ErrForm)
	wantAccepts(t, d, strings.Repeat("\xff", impl.MaxText+1), false, impl.ErrLong)
}
