package tests

import (
	"math/rand"
	"slices"
	"testing"

	"loop.example/g00018/impl"
)

func inBoth(inA, inB bool) bool   { return inA && inB }
func inEither(inA, inB bool) bool { return inA || inB }
func notInA(inA, _ bool) bool     { return !inA }
func inA(inA, _ bool) bool        { return inA }

// leastOf tells the least automaton of what a valid one accepts.
func leastOf(d impl.Dfa) impl.Dfa {
	return setMachine(d, allTexts(), inA).least()
}

// wantSets holds what is made of two automata against the document's words.
func wantSets(t *testing.T, a, b impl.Dfa) {
	t.Helper()
	what := shortDfa(a) + " and " + shortDfa(b)
	d, code := impl.Both(a, b)
	wantDfa(t, "Both of "+what, d, code, setMachine(a, b, inBoth).least())
	d, code = impl.Either(a, b)
	wantDfa(t, "Either of "+what, d, code, setMachine(a, b, inEither).least())
	d, code = impl.Neither(a)
	wantDfa(t, "Neither of "+shortDfa(a), d, code, setMachine(a, allTexts(), notInA).least())
}

func TestSetsWritten(t *testing.T) {
	a, _ := impl.Wildcard("a*")
	b, _ := impl.Wildcard("*b")
	both, code := impl.Both(a, b)
	wantDfa(t, "Both", both, code, dfaOf(dfaState(false, -1, 'a', 1), dfaState(false, 1, 'b', 2), dfaState(true, 1, 'b', 2)))
	either, code := impl.Either(a, b)
	wantDfa(t, "Either", either, code, dfaOf(
		dfaState(false, 3, 'a', 1, 'b', 2), dfaState(true, 1), dfaState(true, 3, 'b', 2), dfaState(false, 3, 'b', 2)))
	// An arc to nowhere stays where all others go on.
	not, code := impl.Neither(a)
	wantDfa(t, "Neither", not, code, dfaOf(dfaState(true, 1, 'a', -1), dfaState(true, 1)))
	none, code := impl.Both(a, not)
	wantDfa(t, "Both", none, code, noTexts())
	all, code := impl.Either(a, not)
	wantDfa(t, "Either", all, code, allTexts())
	not, code = impl.Neither(noTexts())
	wantDfa(t, "Neither of none", not, code, allTexts())
	not, code = impl.Neither(allTexts())
	wantDfa(t, "Neither of all", not, code, noTexts())
}

// Every automaton of one or two states and one letter, with every other such one
// of one state.
func TestSetsOfEverySmallAutomaton(t *testing.T) {
	var small []impl.Dfa
	for _, final := range []bool{false, true} {
		for rest := -1; rest < 1; rest++ {
			small = append(small, dfaOf(dfaState(final, rest)))
			for to := -1; to < 1; to++ {
				small = append(small, dfaOf(dfaState(final, rest, 'a', to)))
			}
		}
	}
	one := len(small)
	for bits := range 1 << 2 {
		for code := range 3 * 3 * 3 * 3 {
			first := dfaState(bits&1 == 1, code%3-1, 'a', code/3%3-1)
			second := dfaState(bits&2 == 2, code/9%3-1, 'a', code/27-1)
			small = append(small, dfaOf(first, second))
		}
	}
	for i, a := range small {
		for k, b := range small {
			if k < one || (i*7+k)%23 == 0 {
				wantSets(t, a, b)
			}
		}
	}
}

func TestSetsOfOtherAutomata(t *testing.T) {
	r := rand.New(rand.NewSource(3))
	chars := []int{0, 'a', 'b', 0xe9, 0x4e2d, 0x1f600, 1114111}
	for range 400 {
		a, b := anyDfa(r, 1+r.Intn(9), chars), anyDfa(r, 1+r.Intn(9), chars)
		wantSets(t, a, b)
		both, _ := impl.Both(a, b)
		either, _ := impl.Either(a, b)
		not, _ := impl.Neither(a)
		for range 30 {
			var text []rune
			for range r.Intn(8) {
				text = append(text, rune(chars[r.Intn(len(chars))]))
			}
			s := string(text)
			p, q := accepted(a, s), accepted(b, s)
			wantAccepts(t, both, s, p && q, impl.OK)
			wantAccepts(t, either, s, p || q, impl.OK)
			wantAccepts(t, not, s, !p, impl.OK)
		}
	}
}

// anyDfa has dead states, states that are not reached, states that accept the
// same and arcs that go where Else goes, now and then.
func anyDfa(r *rand.Rand, states int, chars []int) impl.Dfa {
	var d impl.Dfa
	for range states {
		state := impl.DfaState{Final: r.Intn(3) == 0, Else: r.Intn(states+1) - 1}
		for _, c := range chars {
			if r.Intn(3) == 0 {
				state.Arcs = append(state.Arcs, impl.DfaArc{Rune: c, To: r.Intn(states+1) - 1})
			}
		}
		d.States = append(d.States, state)
	}
	return d
}

// shuffled tells another automaton of the same texts: its states are renumbered
// and doubled, arcs that say nothing are put in, and dead ends stand for nowhere.
func shuffled(r *rand.Rand, d impl.Dfa) impl.Dfa {
	n := len(d.States)
	places := make([][2]int, n)
	numbers := r.Perm(2*n + 1)
	for i := range n {
		places[i] = [2]int{numbers[2*i], numbers[2*i+1]}
	}
	// State 0 must stay the first one.
	zero := slices.Index(numbers, 0)
	dead := numbers[2*n]
	swap := func(number int) int {
		switch number {
		case places[0][0]:
			return 0
		case numbers[zero]:
			return places[0][0]
		}
		return number
	}
	other := func(to int) int {
		if to < 0 {
			return []int{-1, swap(dead)}[r.Intn(2)]
		}
		return swap(places[to][r.Intn(2)])
	}
	out := impl.Dfa{States: make([]impl.DfaState, 2*n+1)}
	out.States[swap(dead)] = dfaState(false, swap(dead), 'a', -1)
	for i, state := range d.States {
		for _, place := range places[i] {
			copied := impl.DfaState{Final: state.Final, Else: other(state.Else)}
			for _, c := range []int{0, 'a', 'b', 'c', 0xe9, 0x4e2d, 0x1f600, 1114111} {
				has := slices.ContainsFunc(state.Arcs, func(arc impl.DfaArc) bool { return arc.Rune == c })
				if has || r.Intn(3) == 0 {
					copied.Arcs = append(copied.Arcs, impl.DfaArc{Rune: c, To: other(goOn(d, i, c))})
				}
			}
			out.States[swap(place)] = copied
		}
	}
	return out
}

// Equal sets have equal automata.
func TestEqualSetsHaveEqualAutomata(t *testing.T) {
	r := rand.New(rand.NewSource(9))
	for range 300 {
		a := anyDfa(r, 1+r.Intn(6), []int{0, 'a', 'b', 0xe9, 0x1f600, 1114111})
		b := anyDfa(r, 1+r.Intn(3), []int{'a', 'c', 0x4e2d})
		a2, b2 := shuffled(r, a), shuffled(r, b)
		if !impl.DfaOK(a2) || !impl.DfaOK(b2) {
			t.Fatal("the second ones are not valid")
		}
		want := leastOf(a)
		d, code := impl.Both(a2, allTexts())
		wantDfa(t, "Both with all", d, code, want)
		d, code = impl.Either(noTexts(), a2)
		wantDfa(t, "Either with none", d, code, want)
		not, _ := impl.Neither(a2)
		d, code = impl.Neither(not)
		wantDfa(t, "Neither twice", d, code, want)
		d, code = impl.Both(a2, b2)
		wantDfa(t, "Both", d, code, setMachine(a, b, inBoth).least())
		wantLaws(t, a2, b2)
	}
}

// wantLaws: what is in neither is not in either; the order does not matter; what
// is in a and in a is in a.
func wantLaws(t *testing.T, a, b impl.Dfa) {
	t.Helper()
	notA, _ := impl.Neither(a)
	notB, _ := impl.Neither(b)
	either, _ := impl.Either(a, b)
	want, _ := impl.Neither(either)
	d, code := impl.Both(notA, notB)
	wantDfa(t, "Both of what neither accepts", d, code, want)
	d, code = impl.Either(b, a)
	wantDfa(t, "Either the other way", d, code, either)
	first, _ := impl.Both(a, b)
	d, code = impl.Both(b, a)
	wantDfa(t, "Both the other way", d, code, first)
	first, _ = impl.Both(a, a)
	d, code = impl.Either(a, a)
	wantDfa(t, "Either of one and itself", d, code, first)
}

func TestSetsOfPatternsAndWords(t *testing.T) {
	pattern := func(text string) impl.Dfa {
		d, code := impl.Wildcard(text)
		if code != impl.OK {
			t.Fatalf("Wildcard of %q: code %d", text, code)
		}
		return d
	}
	d, code := impl.Both(pattern("a*"), pattern("*a"))
	a, _ := impl.Either(pattern("a*a"), pattern("a"))
	wantDfa(t, "a* and *a", d, code, a)
	d, code = impl.Either(pattern("?*"), pattern(""))
	wantDfa(t, "?* or nothing", d, code, allTexts())
	near, _ := impl.Fuzzy("ab", 1, 0)
	d, code = impl.Both(near, pattern("a*"))
	headed, _ := impl.Fuzzy("ab", 1, 1)
	wantDfa(t, "near to ab and with its head", d, code, headed)
	exact, _ := impl.Fuzzy("a\\*", 0, 0)
	wantDfa(t, "the word itself", exact, impl.OK, pattern("a\\\\\\*"))
	far, _ := impl.Neither(near)
	d, code = impl.Both(near, far)
	wantDfa(t, "near and far", d, code, noTexts())
	wantSets(t, near, pattern("*?b?*"))
}

func TestSetsOfManyPairs(t *testing.T) {
	all := func(states int) impl.Dfa {
		d := impl.Dfa{}
		for i := range states {
			d.States = append(d.States, dfaState(true, (i+1)%states))
		}
		return d
	}
	for _, c := range [][2]int{{32, 32}, {256, 4}, {4, 256}, {128, 8}, {256, 1}} {
		a, b := all(c[0]), all(c[1])
		d, code := impl.Both(a, b)
		wantDfa(t, "Both", d, code, allTexts())
		d, code = impl.Either(b, a)
		wantDfa(t, "Either", d, code, allTexts())
	}
	for _, c := range [][2]int{{25, 41}, {41, 25}, {205, 5}, {5, 205}, {256, 5}, {33, 32}, {256, 256}} {
		a, b := all(c[0]), all(c[1])
		d, code := impl.Both(a, b)
		wantNoDfa(t, "Both", d, code, impl.ErrRange)
		d, code = impl.Either(a, b)
		wantNoDfa(t, "Either", d, code, impl.ErrRange)
	}
	// Neither asks for no pairs.
	d, code := impl.Neither(all(impl.MaxDfa))
	wantDfa(t, "Neither", d, code, noTexts())
}

// roundDfa goes round through its states, and accepts in the first one.
func roundDfa(states int) impl.Dfa {
	var d impl.Dfa
	for i := range states {
		d.States = append(d.States, dfaState(i == 0, (i+1)%states))
	}
	return d
}

func TestSetsOfManyStates(t *testing.T) {
	// Numbers of characters that two numbers without a common part divide.
	for _, c := range []struct{ a, b int }{{16, 17}, {15, 17}, {16, 15}, {255, 4}, {31, 33}, {3, 85}, {3, 86}, {256, 1}} {
		a, b := roundDfa(c.a), roundDfa(c.b)
		d, code := impl.Both(a, b)
		wantDfa(t, "Both", d, code, setMachine(a, b, inBoth).least())
		d, code = impl.Either(a, b)
		wantDfa(t, "Either", d, code, setMachine(a, b, inEither).least())
	}
	d, code := impl.Both(roundDfa(64), roundDfa(4))
	wantDfa(t, "Both", d, code, roundDfa(64))
	// What is not accepted needs a state of its own, where it is accepted.
	d, code = impl.Neither(chainDfa(impl.MaxDfa - 1))
	wantDfa(t, "Neither", d, code, setMachine(chainDfa(impl.MaxDfa-1), allTexts(), notInA).least())
	if len(d.States) != impl.MaxDfa {
		t.Errorf("Neither of a chain: %d states", len(d.States))
	}
	d, code = impl.Neither(chainDfa(impl.MaxDfa))
	wantNoDfa(t, "Neither", d, code, impl.ErrMany)
	d, code = impl.Both(chainDfa(impl.MaxDfa), allTexts())
	wantDfa(t, "Both", d, code, chainDfa(impl.MaxDfa))
	d, code = impl.Neither(roundDfa(impl.MaxDfa))
	wantDfa(t, "Neither", d, code, setMachine(roundDfa(impl.MaxDfa), allTexts(), notInA).least())
}

// everyRune tells arcs with all characters; the first count of them go to one
// state, the rest to another.
func everyRune(count, first, second int) []impl.DfaArc {
	var arcs []impl.DfaArc
	for r := range 1114112 {
		if r < 55296 || r > 57343 {
			to := first
			if len(arcs) >= count {
				to = second
			}
			arcs = append(arcs, impl.DfaArc{Rune: r, To: to})
		}
	}
	return arcs
}

// Where all characters have arcs nothing takes Else: what it says must not matter.
func TestSetsOfArcsWithAllCharacters(t *testing.T) {
	const all = 1112064
	one, _ := impl.Wildcard("?")
	for _, rest := range []int{-1, 0, 1} {
		a := dfaOf(impl.DfaState{Arcs: everyRune(all, 1, 1), Else: rest}, dfaState(true, -1))
		d, code := impl.Both(a, allTexts())
		wantDfa(t, "Both", d, code, one)
		d, code = impl.Either(one, a)
		wantDfa(t, "Either", d, code, one)
	}
	for _, count := range []int{0, 1, 2, all/2 - 1, all / 2, all/2 + 1, all - 1} {
		arcs := everyRune(count, 1, -1)
		told := dfaOf(impl.DfaState{Arcs: arcs, Else: 1}, dfaState(true, -1))
		left := dfaOf(impl.DfaState{Arcs: arcs[:count], Else: -1}, dfaState(true, -1))
		right := dfaOf(impl.DfaState{Arcs: arcs[count:], Else: 1}, dfaState(true, -1))
		want, code := impl.Both(left, allTexts())
		if code != impl.OK || len(want.States[0].Arcs) != min(count, all-count) {
			t.Errorf("%d characters: code %d, %d arcs", count, code, len(want.States[0].Arcs))
		}
		for _, same := range []impl.Dfa{told, right} {
			d, code := impl.Either(same, noTexts())
			wantDfa(t, "Either", d, code, want)
		}
		wantAccepts(t, want, "\x00", count > 0, impl.OK)
		wantAccepts(t, want, "\U0010ffff", false, impl.OK)
	}
}
