package tests

import (
	"math"
	"slices"
	"strings"
	"testing"

	"loop.example/g00018/impl"
)

// Of the dictionary of cat, cats, rat and rats each number is made a wrong one.
func TestDictWithAWrongNumber(t *testing.T) {
	right := automatonOf([]string{"cat", "cats", "rat", "rats"})
	odd := []int{math.MinInt, -1 << 32, -256, -2, -1, 0, 1, 2, 3, 4, 5, 6, 97, 98, 255, 256, 300, 4096, 16384, 1 << 32, math.MaxInt}
	try := func(what string, number func(impl.Dict) *int) {
		was := *number(right)
		for _, v := range append([]int{was - 1, was + 1}, odd...) {
			wrong := copyDict(right)
			*number(wrong) = v
			// Another letter makes the dictionary of other terms.
			if v != was && !isRight(wrong) {
				wantNoDict(t, wrong, what)
			}
		}
	}
	for i, state := range right.States {
		for k := range state.Arcs {
			try("Label", func(d impl.Dict) *int { return &d.States[i].Arcs[k].Label })
			try("To", func(d impl.Dict) *int { return &d.States[i].Arcs[k].To })
			try("Ahead", func(d impl.Dict) *int { return &d.States[i].Arcs[k].Ahead })
		}
		wrong := copyDict(right)
		wrong.States[i].Final = !wrong.States[i].Final
		wantNoDict(t, wrong, "Final")
	}
	for _, count := range append([]int{3, 5}, odd...) {
		if count != 4 {
			wrong := copyDict(right)
			wrong.Count = count
			wantNoDict(t, wrong, "Count")
		}
	}
	if !impl.DictOK(right) {
		t.Error("the right one is none")
	}
}

// isRight tells, of states that may be wrong in any way, whether they are those
// of the terms that they accept.
func isRight(d impl.Dict) bool {
	terms, ok := waysFrom(d, 0, "")
	return ok && len(terms) <= impl.MaxList && !slices.Contains(terms, "") && slices.IsSorted(terms) && sameDict(d, automatonOf(terms))
}

// waysFrom goes all ways from a state; false if one leads nowhere or is too long.
func waysFrom(d impl.Dict, state int, ahead string) ([]string, bool) {
	if state < 0 || state >= len(d.States) || len(ahead) > impl.MaxTerm {
		return nil, false
	}
	var terms []string
	if d.States[state].Final {
		terms = append(terms, ahead)
	}
	for _, arc := range d.States[state].Arcs {
		if arc.Label < 0 || arc.Label > 255 {
			return nil, false
		}
		more, ok := waysFrom(d, arc.To, ahead+string([]byte{byte(arc.Label)}))
		if !ok {
			return nil, false
		}
		terms = append(terms, more...)
	}
	return terms, true
}

func arcTo(label byte, to int) impl.DictArc {
	return impl.DictArc{Label: int(label), To: to}
}

// ofStates tells a Dict whose Aheads and Count are those that the ways from each
// state would give, where they end.
func ofStates(list ...impl.DictState) impl.Dict {
	d := copyDict(impl.Dict{States: list})
	terms, _ := waysFrom(d, 0, "")
	d.Count = len(terms)
	for _, state := range d.States {
		ahead := 0
		if state.Final {
			ahead = 1
		}
		for k := range state.Arcs {
			state.Arcs[k].Ahead = ahead
			endings, _ := waysFrom(d, state.Arcs[k].To, "")
			ahead += len(endings)
		}
	}
	return d
}

func stateOf(final bool, arcs ...impl.DictArc) impl.DictState {
	return impl.DictState{Final: final, Arcs: arcs}
}

func TestDictOfWrongStates(t *testing.T) {
	if d := ofStates(stateOf(false, arcTo('a', 1), arcTo('b', 1)), stateOf(true)); !impl.DictOK(d) {
		t.Fatalf("DictOK of %v: false", d)
	}
	for _, c := range []struct {
		what string
		d    impl.Dict
	}{
		{"no state", ofStates()},
		{"the first state is final", ofStates(stateOf(true))},
		{"the first state is final", ofStates(stateOf(true, arcTo('a', 1)), stateOf(true))},
		{"a state without an ending", ofStates(stateOf(false, arcTo('a', 1)), stateOf(false))},
		{"a state without an ending", ofStates(stateOf(false, arcTo('a', 1), arcTo('b', 2)), stateOf(true), stateOf(false))},
		{"a state without an ending", ofStates(stateOf(false, arcTo('a', 1)), stateOf(true, arcTo('a', 2)), stateOf(false))},
		{"a state on no way", ofStates(stateOf(false), stateOf(true))},
		{"a state on no way", ofStates(stateOf(false, arcTo('a', 1)), stateOf(true), stateOf(false))},
		{"a state on no way", ofStates(stateOf(false, arcTo('a', 1)), stateOf(true), stateOf(false, arcTo('b', 1)))},
		{"a state on no way that meets itself", ofStates(stateOf(false, arcTo('a', 1)), stateOf(true), stateOf(false, arcTo('b', 2)))},
		{"a state on no way that meets itself", ofStates(stateOf(false), stateOf(true, arcTo('b', 1)))},
		{"two states on no way", ofStates(stateOf(false, arcTo('a', 1)), stateOf(true), stateOf(false, arcTo('b', 3)), stateOf(false, arcTo('c', 1)))},
		{"two last states", ofStates(stateOf(false, arcTo('a', 1), arcTo('b', 2)), stateOf(true), stateOf(true))},
		{"two alike", ofStates(stateOf(false, arcTo('a', 1), arcTo('b', 2)), stateOf(false, arcTo('x', 3)), stateOf(false, arcTo('x', 3)), stateOf(true))},
		{"two alike by what is behind", ofStates(stateOf(false, arcTo('a', 1), arcTo('b', 2)), stateOf(false, arcTo('x', 3)), stateOf(false, arcTo('x', 4)), stateOf(true), stateOf(true))},
		{"two alike, both final", ofStates(stateOf(false, arcTo('a', 1), arcTo('b', 2)), stateOf(true, arcTo('x', 3)), stateOf(true, arcTo('x', 3)), stateOf(true))},
		{"another order", ofStates(stateOf(false, arcTo('a', 2), arcTo('b', 1)), stateOf(false, arcTo('y', 3)), stateOf(false, arcTo('x', 3)), stateOf(true))},
		{"another order", ofStates(stateOf(false, arcTo('a', 1)), stateOf(false, arcTo('a', 3)), stateOf(true), stateOf(false, arcTo('a', 2)))},
		{"depth ahead of breadth", ofStates(stateOf(false, arcTo('a', 1), arcTo('b', 3)), stateOf(false, arcTo('x', 2)), stateOf(true), stateOf(true, arcTo('x', 2)))},
		{"arcs that fall", ofStates(stateOf(false, arcTo('b', 1), arcTo('a', 1)), stateOf(true))},
		{"arcs that are equal", ofStates(stateOf(false, arcTo('a', 1), arcTo('a', 1)), stateOf(true))},
		{"arcs that are equal", ofStates(stateOf(false, arcTo('a', 1), arcTo('a', 2)), stateOf(true), stateOf(true, arcTo('a', 1)))},
		{"round on itself", ofStates(stateOf(false, arcTo('a', 0)))},
		{"round to the first", ofStates(stateOf(false, arcTo('a', 1)), stateOf(true, arcTo('a', 0)))},
		{"round behind the first", ofStates(stateOf(false, arcTo('a', 1)), stateOf(true, arcTo('a', 1)))},
		{"round by two", ofStates(stateOf(false, arcTo('a', 1)), stateOf(false, arcTo('a', 2)), stateOf(true, arcTo('a', 1)))},
		{"round by two without an end", ofStates(stateOf(false, arcTo('a', 1)), stateOf(false, arcTo('a', 2)), stateOf(false, arcTo('b', 1)))},
		{"round beside an end", ofStates(stateOf(false, arcTo('a', 1), arcTo('b', 2)), stateOf(true), stateOf(false, arcTo('a', 1), arcTo('b', 2)))},
		{"to no state", ofStates(stateOf(false, arcTo('a', 1)))},
		{"to no state", ofStates(stateOf(false, arcTo('a', 1)), stateOf(true, arcTo('a', 2)))},
		{"to a far state", ofStates(stateOf(false, arcTo('a', impl.MaxStates)), stateOf(true))},
	} {
		wantNoAutomaton(t, c.d, c.what)
	}
}

// What BuildDict would refuse is no dictionary either, though its automaton is
// the least one of its terms.
func TestDictBeyondItsLimits(t *testing.T) {
	most, long := impl.MaxTerm, strings.Repeat("b", impl.MaxTerm)
	for _, c := range []struct {
		what  string
		terms []string
	}{
		{"the empty term", []string{""}},
		{"the empty term", []string{"", "a"}},
		{"a term that is too long", []string{long + "b"}},
		{"a term that is too long", []string{"a", long + "b"}},
		{"a term that is too long by two bytes", []string{long + "bb"}},
		// The end that is too long is that of a short term, and counted with it.
		{"a long way to a state that is near", []string{"a" + strings.Repeat("x", 40), strings.Repeat("b", most-40+1) + strings.Repeat("x", 40)}},
		{"a long way to the last state", []string{"a", long + "a"}},
		{"too many terms", pairs(impl.MaxList + 1)},
		{"too many states", termsOfStates(impl.MaxStates + 1)},
	} {
		wantNoAutomaton(t, automatonOf(c.terms), c.what)
	}
	for _, terms := range [][]string{{long}, {"a" + strings.Repeat("x", 40), strings.Repeat("b", most-40) + strings.Repeat("x", 40)}, pairs(impl.MaxList), termsOfStates(impl.MaxStates)} {
		if d := automatonOf(terms); !impl.DictOK(d) {
			t.Errorf("DictOK of the automaton of %s: false", shortTerms(terms))
		}
	}
}

// Every automaton of at most three states over two letters: valid are just those
// of the sets of words.
func TestDictOfEverySmallAutomaton(t *testing.T) {
	right := map[string]impl.Dict{}
	words := wordsUpTo(2, "ab")
	for set := range 1 << len(words) {
		d := automatonOf(bitTerms(words, set))
		right[string(bodyOf(d))] = d
	}
	found := 0
	for size := 1; size <= 3; size++ {
		ways := 2 * (size + 1) * (size + 1)
		all := 1
		for range size {
			all *= ways
		}
		for choice := range all {
			d := smallAutomaton(size, choice)
			body := bodyOf(d)
			want, ok := right[string(body)]
			if !ok {
				wantRead(t, summed(body), impl.Dict{}, impl.ErrCorrupt)
				if impl.DictOK(d) {
					t.Errorf("DictOK of %v: true", d)
				}
				continue
			}
			found++
			wantRead(t, summed(body), want, impl.OK)
			if !impl.DictOK(want) || impl.DictOK(d) != sameDict(d, want) {
				t.Errorf("DictOK of %v or %v", d, want)
			}
		}
	}
	// One of no words, three of words of one letter; of the others six in which
	// the last state is met first, and four times six in which it is not.
	if found != 1+3+6+24 {
		t.Errorf("%d automata are right", found)
	}
}

// smallAutomaton tells one of the automata of size states, with Aheads of 0.
func smallAutomaton(size, choice int) impl.Dict {
	var d impl.Dict
	take := func(n int) int {
		v := choice % n
		choice /= n
		return v
	}
	for range size {
		state := impl.DictState{Final: take(2) == 1}
		for _, label := range "ab" {
			if to := take(size + 1); to < size {
				state.Arcs = append(state.Arcs, impl.DictArc{Label: int(label), To: to})
			}
		}
		d.States = append(d.States, state)
	}
	return d
}

// Wrong ones that would keep a program that walks all ways from ending.
func TestDictCallsEnd(t *testing.T) {
	layers := make([]impl.DictState, impl.MaxTerm+1)
	for i := range impl.MaxTerm {
		layers[i].Arcs = []impl.DictArc{arcTo('a', i+1), arcTo('b', i+1)}
	}
	wantNoAutomaton(t, impl.Dict{States: layers}, "ways without number, no end")
	layers[impl.MaxTerm].Final = true
	wantNoAutomaton(t, impl.Dict{States: layers}, "ways without number")
	wantNoAutomaton(t, impl.Dict{Count: 1 << 62, States: layers}, "ways without number")

	line := make([]impl.DictState, impl.MaxStates)
	for i := range impl.MaxStates {
		line[i].Arcs = []impl.DictArc{arcTo('a', min(i+1, impl.MaxStates-1))}
	}
	wantNoAutomaton(t, impl.Dict{Count: 1, States: line}, "a line with a ring at its end")
	line[impl.MaxStates-1] = stateOf(true)
	wantNoAutomaton(t, impl.Dict{Count: 1, States: line}, "a line")
	line[impl.MaxStates-1] = stateOf(true, arcTo('a', 0))
	wantNoAutomaton(t, impl.Dict{Count: 1, States: line}, "a ring")

	dense := make([]impl.DictState, 300)
	for i := range dense {
		for label := range 256 {
			dense[i].Arcs = append(dense[i].Arcs, impl.DictArc{Label: label, To: min(i+label, 299)})
		}
	}
	wantNoDict(t, impl.Dict{States: dense}, "every arc there can be")
	wantNoDict(t, impl.Dict{States: make([]impl.DictState, 1<<20)}, "states without number")
	wantNoDict(t, impl.Dict{States: []impl.DictState{{Arcs: make([]impl.DictArc, 1<<20)}, {Final: true}}}, "arcs without number")
}
