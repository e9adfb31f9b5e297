package tests

import (
	"math/rand"
	"slices"
	"testing"

	"loop.example/g00018/impl"
)

// evenQueries have scores that hang on no documents.
func evenQueries(t *testing.T) []impl.Query {
	t.Helper()
	var list []impl.Query
	for _, text := range []string{"*", "*^7", "ca*", `~"?a*"`, "cat~1", "n:[0 *]", "n:1", "year:[* 0]^3 n:[1 2]^5", "+* ca*^9 do*", "-tag:red", "-cat", "n:[* *] year:[* *] tag:r*", "(n:0 n:1 n:2 year:0)@2", "+(ca* do*)^2 -tag:blue", `tag:~"*e*"`, "tag:red~1^2 *"} {
		list = append(list, queryOf(t, text))
	}
	return list
}

// wantWhole searches the parts of documents one by one, merges what is told, and
// wants that to be what Search tells of the whole.
func wantWhole(t *testing.T, segs [][]impl.Doc, q impl.Query, keys []impl.SortKey, size int) []impl.Found {
	t.Helper()
	want := mustSearch(t, scene(), segs, impl.Ask{Query: q, Sort: keys, Size: size})
	for _, told := range []int{size, 1000} { // each part need tell no more than are wanted
		var lists [][]impl.Found
		for _, docs := range segs {
			lists = append(lists, mustSearch(t, scene(), oneSegment(docs), impl.Ask{Query: q, Sort: keys, Size: told}).Hits)
		}
		wantMerged(t, lists, keys, size, want.Hits, impl.OK)
	}
	return want.Hits
}

// P26: of parts by keys alone, for queries whose scores hang on no documents.
func TestMergedPartsAreTheWhole(t *testing.T) {
	source := rand.New(rand.NewSource(134))
	several := 0
	for range 25 {
		docs := stockDocs(source, source.Intn(30))
		for _, q := range evenQueries(t) {
			keys := randomKeys(source)
			for _, size := range []int{0, 1, 5, 30, 1000} {
				told := wantWhole(t, randomCut(source, docs), q, keys, size)
				several += btoi(len(told) > 1)
			}
		}
	}
	if several < 500 {
		t.Errorf("only %d tell several hits", several)
	}
}

// Two parts, with no key, one and several, rising and falling.
func TestMergedPartsByEachOrder(t *testing.T) {
	docs := stockDocs(rand.New(rand.NewSource(135)), 40)
	for _, keys := range [][]impl.SortKey{nil, up("n"), down("n"), up("year"), append(up("n"), down("year")...), append(down("year"), up("n")...), up("n", "year", "n", "year"), down("n", "n", "year", "year")} {
		for _, q := range evenQueries(t) {
			for _, at := range []int{0, 1, 20, 39, 40} {
				wantWhole(t, cutAt(docs, at), q, keys, 10)
			}
		}
	}
}

// Every way to cut five documents, in every order.
func TestMergedPartsOfEveryCut(t *testing.T) {
	docs := stockDocs(rand.New(rand.NewSource(136)), 5)
	keys := append(down("n"), up("year")...)
	for _, q := range evenQueries(t)[:6] {
		for _, other := range orders(docs)[:40] {
			for _, segs := range allCuts(other) {
				wantWhole(t, segs, q, keys, 3)
			}
		}
	}
}

// Scores of terms hang on the documents: then the parts tell other ones than the
// whole, and what is merged is still the first of what was told.
func TestMergedPartsOfOtherScores(t *testing.T) {
	source := rand.New(rand.NewSource(137))
	differ := 0
	for range 40 {
		docs := stockDocs(source, 20)
		q := queryOf(t, "cat dog^2")
		var lists [][]impl.Found
		for _, part := range cutAt(docs, 7, 6) {
			lists = append(lists, mustSearch(t, scene(), oneSegment(part), impl.Ask{Query: q, Size: 1000}).Hits)
		}
		merged := wantSameMerged(t, lists, nil, 1000)
		all := mustSearch(t, scene(), oneSegment(docs), impl.Ask{Query: q, Size: 1000}).Hits
		differ += btoi(!slices.EqualFunc(merged, all, sameFound))
		if len(merged) != len(all) {
			t.Errorf("%d hits, want %d", len(merged), len(all))
		}
	}
	if differ == 0 {
		t.Error("no scores differ")
	}
}

// P26: merged hits are the first ones of all: none that is left out stands ahead of
// one that is told, and all that are told were there.
func TestMergedHitsAreTheFirst(t *testing.T) {
	source := rand.New(rand.NewSource(138))
	for range 400 {
		keys := randomKeys(source)
		lists := make([][]impl.Found, source.Intn(17))
		for i := range lists {
			lists[i] = randomHits(source, source.Intn(6), keys)
		}
		all := slices.Concat(lists...)
		size := source.Intn(len(all) + 3)
		told, code := impl.MergeHits(lists, keys, size)
		if code != impl.OK || len(told) != min(size, len(all)) {
			t.Fatalf("%d of %d hits, code %d", len(told), len(all), code)
		}
		left := slices.Clone(all)
		for i, f := range told {
			at := slices.IndexFunc(left, func(g impl.Found) bool { return sameFound(f, g) })
			if at < 0 || i > 0 && isAhead(f, told[i-1], keys) {
				t.Fatalf("%v at %d of %s", f, i, shortFound(told))
			}
			left = slices.Delete(left, at, at+1)
		}
		for _, f := range left {
			if len(told) > 0 && isAhead(f, told[len(told)-1], keys) {
				t.Errorf("%v is left out of %s", f, shortFound(told))
			}
		}
		// Merging the merged with nothing, or with no others, changes nothing.
		wantMerged(t, [][]impl.Found{told}, keys, 1000, told, impl.OK)
		wantMerged(t, [][]impl.Found{nil, told, nil}, keys, 1000, told, impl.OK)
	}
}

// Merged pairwise, in any order of the lists, the first ones are the same.
func TestMergedHitsOfMerged(t *testing.T) {
	source := rand.New(rand.NewSource(139))
	for range 150 {
		keys := randomKeys(source)
		var lists [][]impl.Found
		for range 4 {
			lists = append(lists, randomHits(source, source.Intn(6), keys))
		}
		size := source.Intn(12)
		want, _ := impl.MergeHits(lists, keys, size)
		everyOrder(4, func(order []int) {
			one, _ := impl.MergeHits([][]impl.Found{lists[order[0]], lists[order[1]]}, keys, size)
			two, _ := impl.MergeHits([][]impl.Found{lists[order[2]], lists[order[3]]}, keys, size)
			wantMerged(t, [][]impl.Found{one, two}, keys, size, want, impl.OK)
		})
	}
}

// A simplified query is searched for, explained at its root and merged as the other.
func TestSimplifiedQueriesAreSearchedAlike(t *testing.T) {
	source := rand.New(rand.NewSource(140))
	for range 80 {
		docs := stockDocs(source, 12)
		b := group(group(randomSceneBranch(source, 3)).boosted(1+source.Intn(9)), group(randomSceneBranch(source, 3).with(must)).with(source.Intn(3)))
		simple, code := impl.Simplify(b.query())
		if code != impl.OK {
			t.Fatalf("code %d", code)
		}
		for range 3 {
			a := randomAsk(source, docs, b.query())
			want := mustSearch(t, scene(), randomCut(source, docs), a)
			a.Query = simple
			wantSearch(t, scene(), randomCut(source, docs), a, want, impl.OK)
		}
		for _, d := range docs[:3] {
			long, _ := impl.Explain(scene(), docs, b.query(), d.Id)
			lines, _ := impl.Explain(scene(), docs, simple, d.Id)
			if verdict := long[0][2:]; lines[0][2:] != verdict {
				t.Errorf("%s: %s, of %s: %s", textOf(b.query()), verdict, textOf(simple), lines[0])
			}
		}
	}
}
