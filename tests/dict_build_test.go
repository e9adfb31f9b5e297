package tests

import (
	"math/rand"
	"slices"
	"strings"
	"testing"

	"loop.example/g00018/impl"
)

func TestDictInWritten(t *testing.T) {
	arc := func(label byte, to, ahead int) impl.DictArc {
		return impl.DictArc{Label: int(label), To: to, Ahead: ahead}
	}
	type arcs = []impl.DictArc
	for _, c := range []struct {
		terms []string
		want  []impl.DictState
	}{
		{nil, []impl.DictState{{}}},
		{[]string{}, []impl.DictState{{}}},
		{[]string{"a"}, []impl.DictState{{Arcs: arcs{arc('a', 1, 0)}}, {Final: true}}},
		{[]string{"a", "aa"}, []impl.DictState{{Arcs: arcs{arc('a', 1, 0)}}, {Final: true, Arcs: arcs{arc('a', 2, 1)}}, {Final: true}}},
		{[]string{"\x00", "\xff"}, []impl.DictState{{Arcs: arcs{arc(0, 1, 0), arc(255, 1, 1)}}, {Final: true}}},
		// The second arc of 0 is met ahead of the first arc of 1.
		{[]string{"ax", "b", "bx"}, []impl.DictState{{Arcs: arcs{arc('a', 1, 0), arc('b', 2, 1)}}, {Arcs: arcs{arc('x', 3, 0)}}, {Final: true, Arcs: arcs{arc('x', 3, 1)}}, {Final: true}}},
		// An arc may lead to a state with a smaller number.
		{[]string{"ax", "bax"}, []impl.DictState{{Arcs: arcs{arc('a', 1, 0), arc('b', 2, 1)}}, {Arcs: arcs{arc('x', 3, 0)}}, {Arcs: arcs{arc('a', 1, 0)}}, {Final: true}}},
	} {
		d, code := impl.BuildDict(c.terms)
		if want := (impl.Dict{Count: len(c.terms), States: c.want}); code != impl.OK || !sameDict(d, want) {
			t.Errorf("BuildDict of %q: %s, code %d, want %s", c.terms, shortDict(d), code, shortDict(want))
		}
	}
}

func TestDictHoldsItsTerms(t *testing.T) {
	for _, terms := range [][]string{
		nil, {"a"}, {"\x00"}, {"\xff"}, {"\x00", "\x00\x00", "\x00\x00\x00"}, {"\xff", "\xff\xff"}, {"\x00\xff", "\x80", "\xff\x00"},
		{"car", "card", "care", "cart"}, {"bring", "king", "ring", "sing"}, {"a", "ab", "abc", "abcd"},
		{"cat", "cats", "rat", "rats"}, {"bat", "bats", "cat", "rat", "rats"}, {"ab", "b", "bab"}, {"ax", "bax", "cbax"},
		{"\xe4\xb8\xad", "\xe4\xb8\xad\xe6\x96\x87"}, {"not \xff formed", "\xc3("},
		{"apple", "apples", "apply", "people", "peoples", "supple", "supply"},
		{strings.Repeat("a", impl.MaxTerm)}, {strings.Repeat("a", impl.MaxTerm-1), strings.Repeat("a", impl.MaxTerm)},
		{"a" + strings.Repeat("x", 30), strings.Repeat("b", impl.MaxTerm-30) + strings.Repeat("x", 30)},
	} {
		wantHolds(t, terms)
	}
}

// All sets of words of at most two letters, and the automata of all of three.
func TestDictOfEverySmallSet(t *testing.T) {
	words := wordsUpTo(2, "as")
	for set := range 1 << len(words) {
		wantHolds(t, bitTerms(words, set))
	}
	words = wordsUpTo(3, "\x00\xff")
	for set := range 1 << len(words) {
		d := wantBuilt(t, bitTerms(words, set))
		if set%16 == 5 {
			wantThrough(t, d)
		}
	}
}

func TestDictOfRandomTerms(t *testing.T) {
	source := rand.New(rand.NewSource(11))
	for round := range 300 {
		letters := 1 + source.Intn(4)
		if round%10 == 0 {
			letters = 256
		}
		wantHolds(t, randomTerms(source, source.Intn(40), letters, 8))
	}
	for range 20 {
		terms := randomTerms(source, 200+source.Intn(400), 3, 12)
		d := wantBuilt(t, terms)
		wantThrough(t, d)
		for range 20 {
			n := source.Intn(len(terms))
			wantTerm(t, d, n, terms[n], impl.OK)
			wantAsked(t, d, terms, terms[n])
			wantAsked(t, d, terms, terms[n][:source.Intn(len(terms[n]))])
			wantAsked(t, d, terms, terms[n]+"\x01")
		}
	}
}

func randomTerms(source *rand.Rand, n, letters, size int) []string {
	var terms []string
	for range n {
		term := make([]byte, 1+source.Intn(size))
		for i := range term {
			term[i] = byte(source.Intn(letters))
		}
		terms = append(terms, string(term))
	}
	slices.Sort(terms)
	return slices.Compact(terms)
}

func TestTermSizes(t *testing.T) {
	most := strings.Repeat("m", impl.MaxTerm)
	wantHolds(t, []string{"m", most})
	wantUnbuilt(t, []string{""}, impl.ErrBad)
	wantUnbuilt(t, []string{"", "a"}, impl.ErrBad)
	wantUnbuilt(t, []string{"a", ""}, impl.ErrBad)
	wantUnbuilt(t, []string{most + "m"}, impl.ErrBad)
	wantUnbuilt(t, []string{"a", most + "m", "z"}, impl.ErrBad)
	// Texts within a list are bounded by what the chapter says of them alone.
	wantUnbuilt(t, []string{strings.Repeat("m", impl.MaxText+1)}, impl.ErrBad)
}

func TestTermOrder(t *testing.T) {
	for _, terms := range [][]string{
		{"b", "a"}, {"a", "a"}, {"a", "b", "b"}, {"aa", "a"}, {"a", "c", "b"}, {"c", "a", "b"}, {"a", "\x80", "\x7f"}, {"\x00\x00", "\x00"},
		{strings.Repeat("a", impl.MaxTerm), strings.Repeat("a", impl.MaxTerm-1)},
	} {
		wantUnbuilt(t, terms, impl.ErrOrder)
	}
	// Two faults: a wrong term counts ahead of a wrong order, wherever it stands.
	for _, terms := range [][]string{{"b", "a", ""}, {"", ""}, {"a", "a", strings.Repeat("b", impl.MaxTerm+1)}, {strings.Repeat("b", impl.MaxTerm+1), "a"}} {
		wantUnbuilt(t, terms, impl.ErrBad)
	}
	// An order that is wrong counts ahead of too many states.
	many := termsOfStates(impl.MaxStates + 1)
	wantUnbuilt(t, many, impl.ErrMany)
	wantUnbuilt(t, append(slices.Clone(many), many[0]), impl.ErrOrder)
	wantUnbuilt(t, append(slices.Clone(many), many[0], ""), impl.ErrBad)
}

// pairs tells n rising terms of two bytes.
func pairs(n int) []string {
	terms := make([]string, n)
	for i := range terms {
		terms[i] = string([]byte{byte(i / 256), byte(i % 256)})
	}
	return terms
}

func TestNumberOfTerms(t *testing.T) {
	most := pairs(impl.MaxList)
	d := wantBuilt(t, most)
	wantThrough(t, d)
	for _, n := range []int{0, 1, 255, 256, impl.MaxList - 2, impl.MaxList - 1} {
		wantTerm(t, d, n, most[n], impl.OK)
		wantFind(t, d, most[n], n, impl.OK)
	}
	wantTerm(t, d, impl.MaxList, "", impl.ErrMissing)
	wantTerm(t, d, -1, "", impl.ErrMissing)
	wantRange(t, d, "", 0, impl.MaxList, impl.OK)
	wantRange(t, d, "\x0f", impl.MaxList-256, 256, impl.OK)
	wantRange(t, d, "\x10", 0, 0, impl.ErrMissing)

	more := pairs(impl.MaxList + 1)
	wantUnbuilt(t, more, impl.ErrLong)
	more[5] = ""
	wantUnbuilt(t, more, impl.ErrLong)
	more[5] = more[4]
	wantUnbuilt(t, more, impl.ErrLong)
	wantUnbuilt(t, make([]string, impl.MaxList+1), impl.ErrLong)
	wantUnbuilt(t, make([]string, impl.MaxList), impl.ErrBad)
	// More terms of longer bytes than states can hold.
	wantUnbuilt(t, append(termsOfStates(impl.MaxStates+1), make([]string, impl.MaxList)...), impl.ErrLong)
}

// termsOfStates tells terms whose automaton has n states, for an n about
// MaxStates: the first two bytes of a term tell which one it is, and the last two
// again, so that no states between them are alike. Six states are those of the
// ends: the first and the last, and beside each the two of the higher byte.
func termsOfStates(n int) []string {
	left := n - 6
	var terms []string
	for left > 0 {
		between := min(left, impl.MaxTerm-3)
		left -= between
		high, low := byte(len(terms)/200), byte(len(terms)%200)
		terms = append(terms, string([]byte{high, low})+strings.Repeat("x", between-1)+string([]byte{low, high}))
	}
	return terms
}

func TestNumberOfStates(t *testing.T) {
	if impl.MaxStates != 16384 {
		t.Errorf("MaxStates is %d", impl.MaxStates)
	}
	for _, n := range []int{impl.MaxStates - 1, impl.MaxStates} {
		terms := termsOfStates(n)
		d := wantBuilt(t, terms)
		if len(d.States) != n {
			t.Fatalf("%d states, want %d", len(d.States), n)
		}
		wantThrough(t, d)
		for _, place := range []int{0, len(terms) / 2, len(terms) - 1} {
			wantTerm(t, d, place, terms[place], impl.OK)
			wantAsked(t, d, terms, terms[place])
		}
	}
	for _, n := range []int{impl.MaxStates + 1, impl.MaxStates + 2} {
		terms := termsOfStates(n)
		if d := automatonOf(terms); len(d.States) != n {
			t.Fatalf("%d states, want %d", len(d.States), n)
		}
		wantUnbuilt(t, terms, impl.ErrMany)
	}
	// As many terms as may be, as long as may be, none like another.
	source := rand.New(rand.NewSource(12))
	longest := randomTerms(source, impl.MaxList, 256, impl.MaxTerm)
	for i, term := range longest {
		longest[i] = term + strings.Repeat("z", impl.MaxTerm-len(term))
	}
	slices.Sort(longest)
	wantUnbuilt(t, slices.Compact(longest), impl.ErrMany)
}
