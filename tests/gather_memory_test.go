package tests

import (
	"fmt"
	"math/rand"
	"runtime"
	"slices"
	"strings"
	"sync"
	"testing"
	"time"

	"loop.example/g00018/impl"
)

// mergeCases are arguments of which some have a code.
func mergeCases() []mergeAsk {
	source := rand.New(rand.NewSource(141))
	list := []mergeAsk{
		{}, {size: -1}, {[]founds{nil, {}}, nil, 5}, {[]founds{risingHits(3, 1), risingHits(3, 1)}, up("n"), 4}, {[]founds{risingHits(3, 1)}, nil, 4}, {[]founds{{last("b", 1), last("a", 1)}}, nil, 4},
		{make([]founds, 17), nil, 5}, {[]founds{risingHits(4097, 0)}, nil, 5}, {[]founds{risingHits(2, 5)}, up("a", "b", "c", "d", "e"), 5},
	}
	for range 20 {
		keys := randomKeys(source)
		lists := make([]founds, 1+source.Intn(4))
		for i := range lists {
			lists[i] = randomHits(source, source.Intn(6), keys)
		}
		list = append(list, mergeAsk{lists, keys, source.Intn(20)})
	}
	return list
}

// simpleCases are queries of which some are not valid.
func simpleCases() []impl.Query {
	source := rand.New(rand.NewSource(142))
	list := sampleQueries()
	for range 30 {
		list = append(list, randomRow(source, 5).query())
	}
	return list
}

func dictCases() []impl.Dict {
	return append(sampleDicts(), append(notDicts()[:12], automatonOf(pairs(300)))...)
}

func TestMergeHitsLeavesItsArguments(t *testing.T) {
	for _, a := range mergeCases() {
		lists, keys := roomyCopy(a.lists), roomyCopy(a.keys)
		before, keysBefore := wholeCopy(lists), wholeCopy(keys)
		impl.MergeHits(lists, keys, a.size)
		wantLeft(t, "MergeHits", lists, before)
		wantLeft(t, "MergeHits", keys, keysBefore)
	}
}

func TestGatheringLeavesItsArguments(t *testing.T) {
	schemas, lists, queries := meaningCases(t)
	for _, s := range schemas {
		for _, docs := range lists {
			s, docs := roomyCopy(s), roomyCopy(docs)
			schemaBefore, before := wholeCopy(s), wholeCopy(docs)
			for _, q := range queries {
				q := roomyCopy(q)
				queryBefore := wholeCopy(q)
				for _, d := range docs[:min(3, len(docs))] {
					impl.Matches(s, d, q)
				}
				wantLeft(t, "Matches", q, queryBefore)
			}
			for _, d := range docs[:min(3, len(docs))] {
				impl.MoreLike(s, docs, d.Id, "body", 5)
				impl.MoreLike(s, docs, d.Id, "t", 20)
			}
			wantLeft(t, "a call", s, schemaBefore)
			wantLeft(t, "a call", docs, before)
		}
	}
}

func TestSimplifyLeavesItsArgument(t *testing.T) {
	for _, q := range simpleCases() {
		q := roomyCopy(q)
		before := wholeCopy(q)
		impl.Simplify(q)
		wantLeft(t, "Simplify", q, before)
	}
}

func TestDictMergeLeavesItsArguments(t *testing.T) {
	for _, a := range dictCases() {
		a := roomyCopy(a)
		before := wholeCopy(a)
		for _, b := range dictCases() {
			b := roomyCopy(b)
			otherBefore := wholeCopy(b)
			impl.DictMerge(a, b)
			impl.DictMerge(b, a)
			wantLeft(t, "DictMerge", b, otherBefore)
		}
		impl.DictMerge(a, a)
		wantLeft(t, "DictMerge", a, before)
	}
}

// A hit that is in two lists, and one list twice, are told in memory of their own.
func TestMergeHitsAnswersNewMemory(t *testing.T) {
	told, keys := 0, 0
	for _, a := range mergeCases() {
		lists := ownTexts(a.lists)
		if len(lists) > 0 {
			lists = append(lists[:len(lists):len(lists)], lists[0])
		}
		first, code := impl.MergeHits(lists, a.keys, a.size)
		if code != impl.OK && len(first) > 0 {
			t.Errorf("%s with code %d", shortFound(first), code)
		}
		second, _ := impl.MergeHits(lists, a.keys, a.size)
		wantOwnMemory(t, "MergeHits", first, lists, a.keys, second)
		told += len(first)
		for _, f := range first {
			keys += len(f.Keys)
		}
	}
	if told < 50 || keys < 50 {
		t.Errorf("only %d hits and %d keys are told", told, keys)
	}
}

func TestSimplifyAnswersNewMemory(t *testing.T) {
	for _, q := range simpleCases() {
		q := ownTexts(q)
		first, code := impl.Simplify(q)
		if code != impl.OK && len(first.Nodes) > 0 {
			t.Errorf("%s with code %d", textOf(first), code)
		}
		second, _ := impl.Simplify(q)
		wantOwnMemory(t, "Simplify", first, q, second)
	}
	// What is simple already is new memory too.
	q := ownTexts(queryOf(t, "field:cat (dog +emu)@2"))
	same, _ := impl.Simplify(q)
	wantOwnMemory(t, "Simplify", same, q)
	if !sameQuery(same, q) {
		t.Errorf("%s", textOf(same))
	}
}

func TestMoreLikeAnswersNewMemory(t *testing.T) {
	told := 0
	for _, s := range []impl.Schema{scene(), small()} {
		s, docs := ownTexts(s), ownTexts(sceneDocs())
		for _, d := range docs {
			field := string([]byte("body"))
			first, _ := impl.MoreLike(s, docs, d.Id, field, 20)
			second, _ := impl.MoreLike(s, docs, d.Id, field, 20)
			wantOwnMemory(t, "MoreLike", first, s, docs, field, second)
			told += len(first.Nodes)
		}
	}
	if told == 0 {
		t.Error("nothing is told")
	}
}

func TestFragmentsAnswerNewMemory(t *testing.T) {
	for _, text := range []string{"[a]", "0123456789[a] b c d [e] f", strings.Repeat("[", 300), "none"} {
		text := strings.Clone(text)
		first, _ := impl.Fragments(text, 10)
		second, _ := impl.Fragments(text, 10)
		wantOwnMemory(t, "Fragments", first, text, second)
		for _, one := range first {
			if shares(one, text) {
				t.Errorf("%q shares the text's memory", one)
			}
		}
		wantApart(t, first, second, "other", "Fragments")
	}
}

func TestDictMergeAnswersNewMemory(t *testing.T) {
	for _, a := range dictCases() {
		for _, b := range dictCases() {
			first, code := impl.DictMerge(a, b)
			if code != impl.OK && !noDict(first) {
				t.Errorf("%s with code %d", shortDict(first), code)
			}
			if code != impl.OK {
				continue
			}
			second, _ := impl.DictMerge(a, b)
			wantOwnMemory(t, "DictMerge", first, a, b, second)
			wantListsApart(t, first, second, "DictMerge")
		}
	}
}

// What is written into an answer, or into an argument behind the call, is not to be
// seen in another answer.
func TestGatheringKeepsNothing(t *testing.T) {
	lists := []founds{{last("a", 9, 1), last("c", 1, 2)}, {last("b", 9, 1)}}
	want := founds{last("a", 9, 1), last("b", 9, 1), last("c", 1, 2)}
	first, _ := impl.MergeHits(lists, up("n"), 9)
	kept, _ := impl.MergeHits(lists, up("n"), 9)
	for _, f := range first {
		overwrite(f.Keys, -7)
	}
	overwrite(first, last("x", 0))
	for _, list := range lists {
		for _, f := range list {
			overwrite(f.Keys, -8)
		}
		overwrite(list, last("y", 0))
	}
	if !slices.EqualFunc(kept, want, sameFound) {
		t.Errorf("%s, want %s", shortFound(kept), shortFound(want))
	}

	q := queryOf(t, "((cat)^2 +(dog emu))")
	simple, _ := impl.Simplify(q)
	for i := range q.Nodes {
		overwrite(q.Nodes[i].Kids, 99)
	}
	overwrite(q.Nodes, impl.Node{})
	if text, _ := impl.PrintQuery(simple); text != "(cat^2 +(dog emu))" {
		t.Errorf("%s", text)
	}

	docs := texts("cat dog", "dog")
	like, _ := impl.MoreLike(small(), docs, "a", "t", 5)
	overwrite(docs[0].Values[0].Texts, "x")
	overwrite(docs, impl.Doc{})
	if text, _ := impl.PrintQuery(like); text != "(t:cat t:dog)" {
		t.Errorf("%s", text)
	}

	a, b := automatonOf([]string{"a", "c"}), automatonOf([]string{"b"})
	merged, _ := impl.DictMerge(a, b)
	for _, d := range []impl.Dict{a, b} {
		for i := range d.States {
			overwrite(d.States[i].Arcs, impl.DictArc{})
		}
		overwrite(d.States, impl.DictState{})
	}
	if !sameDict(merged, automatonOf([]string{"a", "b", "c"})) {
		t.Errorf("%s", shortDict(merged))
	}
}

// An empty list and nil are the same.
func TestGatheringOfNoList(t *testing.T) {
	for _, keys := range [][]impl.SortKey{nil, {}} {
		for _, own := range [][]int{nil, {}} {
			lists := []founds{{{Id: "a", Score: 1, Keys: own}}, {{Id: "b", Score: 1, Keys: []int{}}}, {}, nil}
			wantMerged(t, lists, keys, 2, founds{last("a", 1), last("b", 1)}, impl.OK)
		}
		wantMerged(t, []founds{}, keys, 0, nil, impl.OK)
		wantMerged(t, nil, keys, 0, nil, impl.OK)
	}
	empty := impl.Query{Nodes: []impl.Node{{Kind: impl.QBool, Boost: 1, Kids: []int{1}}, {Kind: impl.QAll, Boost: 1, Kids: []int{}}}}
	wantSimple(t, empty, allLeaf().query(), impl.OK)
	d := impl.Dict{States: []impl.DictState{{Arcs: []impl.DictArc{}}}}
	wantDictMerge(t, d, automatonOf(nil), automatonOf(nil), impl.OK)
	wantMoreLike(t, small(), []impl.Doc{}, "a", "t", 5, impl.Query{}, impl.ErrMissing)
	wantMatches(t, small(), impl.Doc{Id: "a", Values: []impl.Value{}}, allLeaf().query(), true, impl.OK)
}

func TestGatheringAtOnce(t *testing.T) {
	docs, like := sceneDocs(), queryOf(t, "body:and body:a body:feline")
	lists := []founds{risingHits(500, 1), risingHits(400, 1), risingHits(300, 1)}
	wantHits, _ := mergeOf(lists, up("n"), 700)
	a, b := automatonOf(pairs(200)), automatonOf(pairs(300)[100:])
	want := automatonOf(pairs(300))
	var all sync.WaitGroup
	wrong := make([]int, 32)
	for i := range wrong {
		all.Go(func() {
			hits, _ := impl.MergeHits(lists, up("n"), 700)
			d, _ := impl.DictMerge(a, b)
			q, _ := impl.MoreLike(scene(), docs, "c", "body", 3)
			found, _ := impl.Matches(scene(), docs[2], q)
			simple, _ := impl.Simplify(q)
			parts, _ := impl.Fragments("the [cat] sat on the [mat]", 10)
			wrong[i] = btoi(!slices.EqualFunc(hits, wantHits, sameFound) || !sameDict(d, want) || !sameQuery(q, like) || !found || !sameQuery(simple, q) || len(parts) != 2)
		})
	}
	all.Wait()
	if slices.Contains(wrong, 1) {
		t.Errorf("these tell something else: %v", wrong)
	}
}

// All that was begun has ended when a call answers, also if it answers a code.
func TestDictMergeEndsWhatItBegan(t *testing.T) {
	a, b := automatonOf(pairs(3000)), automatonOf(pairs(4096)[2000:])
	odd := automatonOf([]string{"x"})
	full, other := automatonOf(pairs(4096)), automatonOf(pairs(8192)[4096:6000])
	before := runtime.NumGoroutine()
	for range 50 {
		impl.DictMerge(a, b)
		impl.DictMerge(odd, a)
		impl.DictMerge(full, other)
		impl.DictMerge(impl.Dict{}, a)
	}
	if behind := runtime.NumGoroutine(); behind > before+5 {
		t.Errorf("%d go on, %d did ahead", behind, before)
	}
}

// The greatest arguments end soon, and those that are far too great at once.
func TestGatheringEndsSoon(t *testing.T) {
	start := time.Now()
	great := slices.Repeat([]founds{risingHits(4096, 4)}, 16)
	if told, code := impl.MergeHits(great, up("a", "b", "c", "d"), 1000); code != impl.OK || len(told) != 1000 {
		t.Errorf("%d hits, code %d", len(told), code)
	}
	wantMerged(t, []founds{make(founds, 1<<20)}, nil, 5, nil, impl.ErrLong)
	wantMerged(t, nil, make([]impl.SortKey, 1<<20), 5, nil, impl.ErrRange)
	wantMerged(t, []founds{{last("a", 1, make([]int, 1<<20)...)}}, up("n"), 5, nil, impl.ErrRange)
	wantSimple(t, impl.Query{Nodes: make([]impl.Node, 1<<20)}, impl.Query{}, impl.ErrBad)
	many := termsOfStates(16384)
	for range 5 {
		impl.DictMerge(automatonOf(many[:len(many)/2]), automatonOf(many[len(many)/2:]))
	}
	impl.DictMerge(impl.Dict{States: make([]impl.DictState, 1<<20)}, impl.Dict{})
	docs := numbered(512)
	for i := range docs {
		docs[i].Values = []impl.Value{textsIn("t", strings.Repeat(fmt.Sprintf("w%d x%d ", i%50, i), 300))}
	}
	for i := range 20 {
		if q, code := impl.MoreLike(small(), docs, docs[i].Id, "t", 20); code != impl.OK || len(q.Nodes) != 3 {
			t.Errorf("%s, code %d", textOf(q), code)
		}
	}
	wantMatches(t, small(), docWith("a", textsIn("t", strings.Repeat("x ", 1<<22))), allLeaf().query(), false, impl.ErrBad)
	wantMoreLike(t, small(), docs, strings.Repeat("x", 1<<24), "t", 5, impl.Query{}, impl.ErrLong)
	wantMoreLike(t, small(), docs, "d000", strings.Repeat("x", 1<<24), 5, impl.Query{}, impl.ErrLong)
	if spent := time.Since(start); spent > 30*time.Second {
		t.Errorf("it took %v", spent)
	}
}

// Documents of which very many terms come: all that a text can give.
func TestMoreLikeOfManyTerms(t *testing.T) {
	start := time.Now()
	var synonyms []impl.Synonym
	for i := range 64 {
		synonyms = append(synonyms, impl.Synonym{From: "a", To: differentLetters(16, i)})
	}
	s := schemaOf(textField("t", impl.Analyzer{Synonyms: synonyms, Lo: 1, Hi: 8}))
	docs := []impl.Doc{docWith("a", textsIn("t", "a")), docWith("b", textsIn("t", slices.Repeat([]string{"a"}, 16)...))}
	for _, id := range []string{"a", "b"} {
		q, code := impl.MoreLike(s, docs, id, "t", 20)
		if code != impl.OK || len(q.Nodes) < 2 {
			t.Errorf("%s, code %d", textOf(q), code)
		}
	}
	if spent := time.Since(start); spent > 20*time.Second {
		t.Errorf("it took %v", spent)
	}
}
