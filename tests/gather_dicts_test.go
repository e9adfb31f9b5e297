package tests

import (
	"math/rand"
	"slices"
	"strings"
	"testing"

	"loop.example/g00018/impl"
)

func TestDictMergeInWritten(t *testing.T) {
	for _, row := range []struct{ some, others, want string }{
		{"", "", ""}, {"a", "", "a"}, {"", "a", "a"}, {"a", "a", "a"}, {"a", "b", "a b"}, {"b", "a", "a b"}, {"a c", "b c", "a b c"}, {"a b c", "b", "a b c"}, {"b", "a b c", "a b c"},
		{"a b c", "a b c", "a b c"}, {"a b", "c d", "a b c d"}, {"c d", "a b", "a b c d"}, {"a c e", "b d f", "a b c d e f"}, {"cat rat", "cats rats", "cat cats rat rats"}, {"cats", "cat", "cat cats"}, {"a aa aaa", "aaaa", "a aa aaa aaaa"}, {"b ba", "a ab b", "a ab b ba"},
	} {
		want := automatonOf(strings.Fields(row.want))
		for _, pair := range [][2]string{{row.some, row.others}, {row.others, row.some}} {
			a, b := automatonOf(strings.Fields(pair[0])), automatonOf(strings.Fields(pair[1]))
			wantDictMerge(t, a, b, want, impl.OK)
			if own, code := dictMergeOf(a, b); code != impl.OK || !sameDict(own, want) {
				t.Errorf("the second telling of %q: %s, code %d", pair, shortDict(own), code)
			}
		}
	}
	// Bytes of all kinds, and terms that are not well-formed.
	wantMergedTerms(t, []string{"\x00", "\x80", "\xff"}, []string{"\x00\x00", "\x7f", "\xff\xff"})
	wantMergedTerms(t, []string{"\x00\xff", "\xc3"}, []string{"\x01", "\xc3\xa9"})
	wantMergedTerms(t, []string{strings.Repeat("a", 64)}, []string{strings.Repeat("a", 63), strings.Repeat("b", 64)})
}

// Every two sets of words of at most two letters, both ways.
func TestDictMergeOfEverySmallSet(t *testing.T) {
	words := wordsUpTo(2, "as")
	dicts := make([]impl.Dict, 1<<len(words))
	for set := range dicts {
		dicts[set] = automatonOf(bitTerms(words, set))
	}
	for set, a := range dicts {
		for other, b := range dicts {
			wantDictMerge(t, a, b, dicts[set|other], impl.OK)
		}
	}
}

// With itself, and with what has no term, it stays as it is.
func TestDictMergeWithItself(t *testing.T) {
	for _, d := range append(sampleDicts(), automatonOf(pairs(300)), automatonOf(pairs(4096)), automatonOf(termsOfStates(16384))) {
		wantDictMerge(t, d, d, d, impl.OK)
		wantDictMerge(t, d, automatonOf(nil), d, impl.OK)
		wantDictMerge(t, automatonOf(nil), d, d, impl.OK)
		wantDictMerge(t, d, copyDict(d), d, impl.OK)
	}
}

func TestDictMergeOfRandomTerms(t *testing.T) {
	source := rand.New(rand.NewSource(131))
	common := 0
	for round := range 400 {
		letters := 1 + source.Intn(4)
		if round%10 == 0 {
			letters = 256
		}
		some, others := randomTerms(source, source.Intn(40), letters, 6), randomTerms(source, source.Intn(40), letters, 6)
		wantMergedTerms(t, some, others)
		common += btoi(slices.ContainsFunc(some, func(term string) bool { return slices.Contains(others, term) }))
	}
	if common < 100 {
		t.Errorf("only %d have a term in common", common)
	}
}

// P5 of what is merged: it is valid, each term is found at its place, each place tells
// its term, prefixes tell their stretch, and its bytes come back.
func TestDictMergeHoldsItsTerms(t *testing.T) {
	source := rand.New(rand.NewSource(132))
	for range 60 {
		some, others := randomTerms(source, source.Intn(30), 3, 5), randomTerms(source, source.Intn(30), 3, 5)
		a, _ := impl.BuildDict(some)
		b, _ := impl.BuildDict(others)
		d, code := impl.DictMerge(a, b)
		if code != impl.OK || !impl.DictOK(d) {
			t.Fatalf("%s, code %d", shortDict(d), code)
		}
		terms := slices.Concat(some, others)
		slices.Sort(terms)
		terms = slices.Compact(terms)
		if d.Count != len(terms) {
			t.Errorf("%d terms, want %d", d.Count, len(terms))
		}
		wantThrough(t, d)
		for n, term := range terms {
			wantTerm(t, d, n, term, impl.OK)
			wantAsked(t, d, terms, term)
			wantAsked(t, d, terms, term[:len(term)/2])
			wantAsked(t, d, terms, term+"\x01")
		}
		built, _ := impl.BuildDict(terms)
		wantDictMerge(t, a, b, built, impl.OK)
	}
}

// Three merged one after the other are the same in any order.
func TestDictMergeInAnyOrder(t *testing.T) {
	source := rand.New(rand.NewSource(133))
	for range 60 {
		var list []impl.Dict
		var all []string
		for range 3 {
			terms := randomTerms(source, source.Intn(20), 3, 4)
			list = append(list, automatonOf(terms))
			all = append(all, terms...)
		}
		want, _ := dictOfAll(all, nil)
		everyOrder(3, func(order []int) {
			both, code := impl.DictMerge(list[order[0]], list[order[1]])
			if code != impl.OK {
				t.Errorf("code %d", code)
			}
			wantDictMerge(t, both, list[order[2]], want, impl.OK)
			wantDictMerge(t, list[order[2]], both, want, impl.OK)
		})
	}
}

func TestDictMergeLimitOnTerms(t *testing.T) {
	all := pairs(4098)
	for _, n := range []int{0, 1, 2, 2048, 4095} {
		if n > 0 {
			wantMergedTerms(t, all[:n], all[n:4096])
			wantMergedTerms(t, all[:n], all[n:4097])
		}
		// Terms that both have count once.
		wantMergedTerms(t, all[:4096], all[:n])
		wantMergedTerms(t, all[:4096], all[4096-n:4097])
	}
	wantDictMerge(t, automatonOf(all[:4096]), automatonOf(all[4096:]), impl.Dict{}, impl.ErrLong)
	wantDictMerge(t, automatonOf(all[:4096]), automatonOf(all[1:4097]), impl.Dict{}, impl.ErrLong)
	wantDictMerge(t, automatonOf(all[:4096]), automatonOf(all[4095:4096]), automatonOf(all[:4096]), impl.OK)
	// Every second one, and twice as many as may be.
	var even, odd []string
	for i, term := range pairs(8192) {
		if i%2 == 0 {
			even = append(even, term)
		} else {
			odd = append(odd, term)
		}
	}
	wantMergedTerms(t, even[:2048], odd[:2048])
	wantMergedTerms(t, even[:2048], odd[:2049])
	wantDictMerge(t, automatonOf(even), automatonOf(odd), impl.Dict{}, impl.ErrLong)
}

func TestDictMergeLimitOnStates(t *testing.T) {
	for n, code := range map[int]int{16383: impl.OK, 16384: impl.OK, 16385: impl.ErrMany} {
		terms := termsOfStates(n)
		some, others := terms[:len(terms)/3], terms[len(terms)/3:]
		whole := automatonOf(terms)
		if len(whole.States) != n {
			t.Fatalf("%d states, want %d", len(whole.States), n)
		}
		if code != impl.OK {
			whole = impl.Dict{}
		}
		wantDictMerge(t, automatonOf(some), automatonOf(others), whole, code)
		wantDictMerge(t, automatonOf(others), automatonOf(some), whole, code)
	}
	// Too many terms count ahead of too many states.
	many, full := termsOfStates(16384), pairs(4096)
	all := slices.Concat(many, full)
	slices.Sort(all)
	if union := automatonOf(slices.Compact(all)); union.Count <= 4096 || len(union.States) <= 16384 {
		t.Fatalf("%d terms, %d states", union.Count, len(union.States))
	}
	wantDictMerge(t, automatonOf(many), automatonOf(full), impl.Dict{}, impl.ErrLong)
	wantDictMerge(t, automatonOf(full), automatonOf(many), impl.Dict{}, impl.ErrLong)
}

// notDicts are no dictionaries.
func notDicts() []impl.Dict {
	list := []impl.Dict{{}, {Count: 1}, {States: make([]impl.DictState, 2)}, ofStates(stateOf(true)), ofStates(stateOf(false, arcTo('a', 0))), ofStates(stateOf(false, arcTo('a', 1)), stateOf(false)), ofStates(stateOf(false, arcTo('b', 1), arcTo('a', 1)), stateOf(true)), ofStates(stateOf(false, arcTo('a', 2)), stateOf(true)), {Count: -1, States: []impl.DictState{{}}}}
	for _, terms := range [][]string{{"cat", "cats"}, {"a", "b", "c"}} {
		for change := range 5 {
			d := automatonOf(terms)
			switch change {
			case 0:
				d.Count++
			case 1:
				d.States[0].Arcs[0].Ahead = 5
			case 2:
				d.States = append(d.States, impl.DictState{Final: true})
			case 3:
				d.States[0].Arcs[0].Label = 256
			case 4:
				d.States[0].Arcs[0].To = -1
			}
			list = append(list, d)
		}
	}
	return append(list, automatonOf([]string{strings.Repeat("a", 65)}), automatonOf(pairs(4097)), automatonOf(termsOfStates(16385)))
}

// Not valid, as either argument and as both, counts ahead of all else.
func TestDictMergeOfWrongDicts(t *testing.T) {
	right := append(sampleDicts(), automatonOf(pairs(4096)), automatonOf(termsOfStates(16384)))
	for _, wrong := range notDicts() {
		if impl.DictOK(wrong) {
			t.Fatalf("%s is valid", shortDict(wrong))
		}
		for _, d := range right {
			wantDictMerge(t, wrong, d, impl.Dict{}, impl.ErrBad)
			wantDictMerge(t, d, wrong, impl.Dict{}, impl.ErrBad)
		}
		wantDictMerge(t, wrong, wrong, impl.Dict{}, impl.ErrBad)
		wantDictMerge(t, wrong, impl.Dict{}, impl.Dict{}, impl.ErrBad)
	}
	// What was merged may be wrong only if it was changed.
	d, _ := impl.DictMerge(right[1], right[2])
	d.Count++
	wantDictMerge(t, d, right[0], impl.Dict{}, impl.ErrBad)
}
