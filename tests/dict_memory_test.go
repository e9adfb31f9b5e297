package tests

import (
	"bytes"
	"slices"
	"strings"
	"testing"

	"loop.example/g00018/impl"
)

func memoryTerms() [][]string {
	return [][]string{
		nil, {"a"}, {"cat", "cats", "rat", "rats"}, {"\x00", "\xff"}, {"b", "a"}, {""}, {strings.Repeat("a", impl.MaxTerm)}, pairs(impl.MaxList), pairs(impl.MaxList + 1),
	}
}

func TestBuildDictLeavesItsTerms(t *testing.T) {
	for _, terms := range memoryTerms() {
		whole := append(slices.Clone(terms), "behind", "the", "end")
		before := slices.Clone(whole)
		impl.BuildDict(whole[:len(terms)])
		if !slices.Equal(whole, before) {
			t.Errorf("BuildDict wrote into %s", shortTerms(terms))
		}
	}
}

// roomy tells a copy that has memory behind the end of each of its lists.
func roomy(d impl.Dict) (impl.Dict, []impl.DictState, [][]impl.DictArc) {
	whole := append(slices.Clone(d.States), impl.DictState{Final: true})
	arcs := make([][]impl.DictArc, len(d.States))
	for i, state := range d.States {
		arcs[i] = append(slices.Clone(state.Arcs), impl.DictArc{Label: -7, To: -8, Ahead: -9})
		whole[i].Arcs = arcs[i][:len(state.Arcs)]
	}
	return impl.Dict{Count: d.Count, States: whole[:len(d.States)]}, whole, arcs
}

func TestDictCallsLeaveTheDict(t *testing.T) {
	wrong := automatonOf([]string{"cat", "cats"})
	wrong.States[0].Arcs[0].Ahead = 5
	for _, d := range append(sampleDicts(), wrong, automatonOf(pairs(300))) {
		given, whole, arcs := roomy(d)
		impl.DictOK(given)
		impl.DictFind(given, "cats")
		impl.DictTerm(given, 1)
		impl.DictRange(given, "c")
		impl.DictRange(given, "")
		impl.DictBytes(given)
		if !sameDict(given, d) || !whole[len(d.States)].Final || whole[len(d.States)].Arcs != nil {
			t.Errorf("a call wrote into %s", shortDict(d))
		}
		for i := range arcs {
			if !slices.Equal(arcs[i][:len(arcs[i])-1], d.States[i].Arcs) || arcs[i][len(arcs[i])-1] != (impl.DictArc{Label: -7, To: -8, Ahead: -9}) {
				t.Errorf("a call wrote behind the arcs of state %d of %s", i, shortDict(d))
			}
		}
	}
}

func TestReadDictLeavesItsBytes(t *testing.T) {
	for _, d := range sampleDicts() {
		b := summed(bodyOf(d))
		for _, size := range []int{len(b), len(b) - 1, 4, 0} {
			whole := append(slices.Clone(b), 1, 2, 3)
			before := slices.Clone(whole)
			impl.ReadDict(whole[:size])
			if !bytes.Equal(whole, before) {
				t.Errorf("ReadDict wrote into %v", b)
			}
		}
	}
}

// wantListsApart writes over every list of a dictionary, also behind its end,
// one by one: all other lists, and those of a second answer, must stay.
func wantListsApart(t *testing.T, first, second impl.Dict, what string) {
	t.Helper()
	other := impl.DictArc{Label: -1, To: -2, Ahead: -3}
	want := copyDict(first)
	for i := range first.States {
		arcs := first.States[i].Arcs[:cap(first.States[i].Arcs)]
		for k := range arcs {
			arcs[k] = other
		}
		want.States[i].Arcs = slices.Repeat([]impl.DictArc{other}, len(want.States[i].Arcs))
		if len(first.States) < 50 && !sameDict(first, want) {
			t.Errorf("lists of one answer of %s share memory", what)
		}
	}
	if !sameDict(first, want) {
		t.Errorf("lists of one answer of %s share memory", what)
	}
	right := copyDict(second)
	states := first.States[:cap(first.States)]
	for i := range states {
		states[i] = impl.DictState{Final: true, Arcs: []impl.DictArc{other}}
	}
	if !sameDict(second, right) || !impl.DictOK(second) {
		t.Errorf("two answers of %s share memory", what)
	}
}

func TestDictAnswersNewMemory(t *testing.T) {
	for _, terms := range memoryTerms() {
		first, code := impl.BuildDict(terms)
		if code != impl.OK {
			continue
		}
		second, _ := impl.BuildDict(terms)
		b, _ := impl.DictBytes(first)
		again, _ := impl.DictBytes(first)
		read, _ := impl.ReadDict(b)
		other, _ := impl.ReadDict(b)
		wantListsApart(t, first, second, "BuildDict of "+shortTerms(terms))
		wantApart(t, b, again, 77, "DictBytes of "+shortTerms(terms))
		wantListsApart(t, read, other, "ReadDict of "+shortTerms(terms))
	}
	d := automatonOf([]string{"cat", "cats"})
	one, _ := impl.DictTerm(d, 1)
	two, _ := impl.DictTerm(d, 1)
	if one != "cats" || shares(one, two) {
		t.Errorf("DictTerm: %q and %q", one, two)
	}
}
