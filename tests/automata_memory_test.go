package tests

import (
	"slices"
	"strings"
	"testing"

	"loop.example/g00018/impl"
)

func memoryDfas() []impl.Dfa {
	a, _ := impl.Wildcard("*a??b")
	b, _ := impl.Fuzzy("kitten", 2, 1)
	return []impl.Dfa{
		noTexts(), allTexts(), a, b, chainDfa(impl.MaxDfa), chainDfa(4),
		dfaOf(dfaState(true, 0, 'a', 0, 'b', -1), dfaState(false, 1, 'c', 0)),
		dfaOf(dfaState(true, 5)), dfaOf(dfaState(true, 0, 'b', 0, 'a', 0)), {},
	}
}

// roomyDfa tells a copy that has memory behind the end of each of its lists.
func roomyDfa(d impl.Dfa) (impl.Dfa, []impl.DfaState, [][]impl.DfaArc) {
	whole := append(slices.Clone(d.States), impl.DfaState{Final: true, Else: -7})
	arcs := make([][]impl.DfaArc, len(d.States))
	for i, state := range d.States {
		arcs[i] = append(slices.Clone(state.Arcs), impl.DfaArc{Rune: -8, To: -9})
		whole[i].Arcs = arcs[i][:len(state.Arcs)]
	}
	return impl.Dfa{States: whole[:len(d.States)]}, whole, arcs
}

func TestDfaCallsLeaveTheirArguments(t *testing.T) {
	dict := automatonOf([]string{"cat", "cats", "kitten"})
	for _, d := range memoryDfas() {
		given, whole, arcs := roomyDfa(d)
		impl.DfaOK(given)
		impl.Accepts(given, "kitten")
		impl.Both(given, allTexts())
		impl.Both(given, given)
		impl.Either(chainDfa(3), given)
		impl.Either(given, given)
		impl.Neither(given)
		givenDict, _, dictArcs := roomy(dict)
		impl.TermsOf(given, givenDict)
		if !sameDfa(given, d) || whole[len(d.States)].Else != -7 || whole[len(d.States)].Arcs != nil || !sameDict(givenDict, dict) {
			t.Errorf("a call wrote into %s", shortDfa(d))
		}
		for i := range arcs {
			if arcs[i][len(arcs[i])-1] != (impl.DfaArc{Rune: -8, To: -9}) {
				t.Errorf("a call wrote behind the arcs of state %d of %s", i, shortDfa(d))
			}
		}
		for i := range dictArcs {
			if dictArcs[i][len(dictArcs[i])-1] != (impl.DictArc{Label: -7, To: -8, Ahead: -9}) {
				t.Errorf("TermsOf wrote behind the arcs of state %d of the dictionary", i)
			}
		}
	}
}

// wantDfaApart writes over every list of an answer, also behind its end, one by
// one: all other lists, those of a second answer, and the arguments must stay.
func wantDfaApart(t *testing.T, what string, first, second impl.Dfa, given ...impl.Dfa) {
	t.Helper()
	other := impl.DfaArc{Rune: -1, To: -2}
	var before []impl.Dfa
	for _, d := range given {
		before = append(before, copyDfa(d))
	}
	want, right := copyDfa(first), copyDfa(second)
	for i := range first.States {
		arcs := first.States[i].Arcs[:cap(first.States[i].Arcs)]
		for k := range arcs {
			arcs[k] = other
		}
		want.States[i].Arcs = slices.Repeat([]impl.DfaArc{other}, len(want.States[i].Arcs))
		if !sameDfa(first, want) {
			t.Fatalf("lists of one answer of %s share memory", what)
		}
	}
	states := first.States[:cap(first.States)]
	for i := range states {
		states[i] = impl.DfaState{Final: true, Else: -5}
	}
	if !sameDfa(second, right) {
		t.Errorf("two answers of %s share memory", what)
	}
	for i, d := range given {
		if !sameDfa(d, before[i]) {
			t.Errorf("an answer of %s shares memory with an argument", what)
		}
	}
}

func TestDfaAnswersNewMemory(t *testing.T) {
	for _, pattern := range []string{"", "*", "abc", "*a?b*", "*a???"} {
		first, _ := impl.Wildcard(pattern)
		second, _ := impl.Wildcard(pattern)
		wantDfaApart(t, "Wildcard", first, second)
	}
	for _, word := range []string{"", "a", "kitten"} {
		first, _ := impl.Fuzzy(word, 2, 0)
		second, _ := impl.Fuzzy(word, 2, 0)
		wantDfaApart(t, "Fuzzy", first, second)
	}
	for _, a := range memoryDfas() {
		for _, b := range memoryDfas() {
			first, code := impl.Both(a, b)
			if code != impl.OK {
				continue
			}
			second, _ := impl.Both(a, b)
			wantDfaApart(t, "Both", first, second, a, b)
			if first, code = impl.Either(a, b); code == impl.OK {
				second, _ = impl.Either(a, b)
				wantDfaApart(t, "Either", first, second, a, b)
			}
		}
		if first, code := impl.Neither(a); code == impl.OK {
			second, _ := impl.Neither(a)
			wantDfaApart(t, "Neither", first, second, a)
		}
	}
}

func TestTermsOfAnswersNewMemory(t *testing.T) {
	d := automatonOf([]string{"cat", "cats", "rat"})
	first, _ := impl.TermsOf(allTexts(), d)
	second, _ := impl.TermsOf(allTexts(), d)
	for i := range first {
		for k := range second {
			if shares(first[i], second[k]) || i != k && shares(first[i], first[k]) {
				t.Errorf("TermsOf: %q and %q share memory", first[i], second[k])
			}
		}
	}
	wantApart(t, first, second, "x", "TermsOf")
}

// The same question has the same answer, over and over: no map's order is seen.
func TestDfaAnswersDoNotChange(t *testing.T) {
	a, _ := impl.Wildcard("*a?b?c*")
	b, _ := impl.Fuzzy("abc", 2, 0)
	first, code := impl.Both(a, b)
	if code != impl.OK {
		t.Fatalf("code %d", code)
	}
	for range 30 {
		d, _ := impl.Both(a, b)
		if !sameDfa(d, first) {
			t.Fatal("Both tells another automaton")
		}
	}
}

// Texts at their longest, and beyond, in every call that takes one.
func TestDfaCallsEndWithLongTexts(t *testing.T) {
	for _, size := range []int{impl.MaxText, impl.MaxText + 1} {
		for _, part := range []string{"a", "*", "?", "\\", "\xff", "\x00"} {
			s := strings.Repeat(part, size)
			impl.Accepts(allTexts(), s)
			impl.Wildcard(s)
			impl.LikeText(s, s)
			impl.LikeText("*"+s[2:]+"*", s)
			impl.Edits(s, s)
			impl.Fuzzy(s, 2, 0)
		}
	}
}
