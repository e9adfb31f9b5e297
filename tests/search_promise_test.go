package tests

import (
	"math/rand"
	"slices"
	"testing"

	"loop.example/g00018/impl"
)

// allCuts tells every way to cut documents into segments without another order.
func allCuts(docs []impl.Doc) [][][]impl.Doc {
	var list [][][]impl.Doc
	for code := range 1 << (len(docs) - 1) {
		segs := [][]impl.Doc{docs[:1]}
		for i := 1; i < len(docs); i++ {
			if code>>(i-1)&1 == 1 {
				segs = append(segs, nil)
			}
			at := len(segs) - 1
			segs[at] = append(slices.Clone(segs[at]), docs[i])
		}
		list = append(list, segs)
	}
	return list
}

// orders tells every order of a few documents.
func orders(docs []impl.Doc) [][]impl.Doc {
	if len(docs) == 0 {
		return [][]impl.Doc{nil}
	}
	var list [][]impl.Doc
	for i, d := range docs {
		rest := slices.Delete(slices.Clone(docs), i, i+1)
		for _, other := range orders(rest) {
			list = append(list, append([]impl.Doc{d}, other...))
		}
	}
	return list
}

// cutAsks are asks of documents of scene.
func cutAsks(t *testing.T) []impl.Ask {
	return []impl.Ask{
		{Query: queryOf(t, "cat dog"), Size: 9},
		{Query: queryOf(t, "*"), Size: 9, Sort: append(down("n"), up("year")...)},
		{Query: queryOf(t, "cat ~\"*\" -tag:x"), Size: 2, From: 1, Sort: up("n"), Collapse: "tag"},
		{Query: queryOf(t, "+* cat \"cat dog\""), Size: 3, Behind: true, Last: last("a", 1200), Collapse: "tag"},
	}
}

// Every way to cut five documents, in every order.
func TestSearchOfEveryCut(t *testing.T) {
	docs := stockDocs(rand.New(rand.NewSource(23)), 5)
	for _, a := range cutAsks(t) {
		want := mustSearch(t, scene(), oneSegment(docs), a)
		if len(want.Hits) == 0 {
			t.Fatalf("%s tells nothing", shortAsk(a))
		}
		for _, other := range orders(docs) {
			for _, segs := range allCuts(other) {
				wantSearch(t, scene(), segs, a, want, impl.OK)
			}
		}
	}
}

func TestSearchOfRandomCuts(t *testing.T) {
	source := rand.New(rand.NewSource(24))
	for range 60 {
		docs := stockDocs(source, 1+source.Intn(30))
		for range 4 {
			a := randomAsk(source, docs, randomSceneBranch(source, 3).query())
			want := mustSearch(t, scene(), oneSegment(docs), a)
			for range 6 {
				wantSearch(t, scene(), randomCut(source, docs), a, want, impl.OK)
			}
		}
	}
}

// An empty segment more, wherever it stands, changes nothing.
func TestSearchWithEmptySegments(t *testing.T) {
	docs := sceneDocs()
	for _, a := range cutAsks(t) {
		want := mustSearch(t, scene(), oneSegment(docs), a)
		segs := cutAt(docs, 2, 2)
		for at := range len(segs) + 1 {
			wantSearch(t, scene(), slices.Insert(slices.Clone(segs), at, []impl.Doc(nil)), a, want, impl.OK)
			wantSearch(t, scene(), slices.Insert(slices.Clone(segs), at, []impl.Doc{}, nil, nil), a, want, impl.OK)
		}
	}
}

// whole tells all that is left of an ask, in one page.
func whole(t *testing.T, segs [][]impl.Doc, a impl.Ask) impl.Result {
	t.Helper()
	a.From, a.Size = 0, 1000
	return mustSearch(t, scene(), segs, a)
}

// pagesByFrom puts pages of one size together, each by what lies ahead of it.
func pagesByFrom(t *testing.T, segs [][]impl.Doc, a impl.Ask) []impl.Found {
	t.Helper()
	var list []impl.Found
	for a.From = 0; ; a.From += a.Size {
		page := mustSearch(t, scene(), segs, a).Hits
		if len(page) == 0 {
			return list
		}
		list = append(list, page...)
	}
}

// pagesByLast puts pages of one size together, each behind the last hit of the
// one ahead.
func pagesByLast(t *testing.T, segs [][]impl.Doc, a impl.Ask) []impl.Found {
	t.Helper()
	var list []impl.Found
	for a.From = 0; ; a.Behind = true {
		page := mustSearch(t, scene(), segs, a).Hits
		if len(page) == 0 || len(list) > 512 { // beyond that a page comes again and again
			return list
		}
		list = append(list, page...)
		a.Last = page[len(page)-1]
	}
}

func TestSearchPagesAreTheWhole(t *testing.T) {
	source := rand.New(rand.NewSource(25))
	several := 0
	for range 60 {
		docs := stockDocs(source, source.Intn(25))
		q := queryOf(t, []string{"*", "cat", "cat dog", "-tag:red", "cat* n:[0 *]"}[source.Intn(5)])
		a := impl.Ask{Query: q, Sort: randomKeys(source), Collapse: []string{"", "tag"}[source.Intn(2)]}
		segs := randomCut(source, docs)
		all := whole(t, segs, a)
		for _, size := range []int{1, 2, 3, 7, 25} {
			a.Size = size
			for _, pages := range [][]impl.Found{pagesByFrom(t, segs, a), pagesByLast(t, segs, a)} {
				if !slices.EqualFunc(pages, all.Hits, sameFound) {
					t.Errorf("%s: pages put together are %v, the whole is %v", shortAsk(a), pages, all.Hits)
				}
			}
			several += btoi(len(all.Hits) > size)
		}
	}
	if several < 100 {
		t.Errorf("only %d times there is more than a page", several)
	}
}

// A page behind a hit begins with the next hit, whatever was passed over ahead.
func TestSearchBehindIsTheNextPage(t *testing.T) {
	source := rand.New(rand.NewSource(26))
	for range 40 {
		docs := stockDocs(source, 12)
		a := impl.Ask{Query: randomSceneBranch(source, 3).query(), Sort: randomKeys(source), Collapse: []string{"", "tag"}[source.Intn(2)]}
		segs := randomCut(source, docs)
		all := whole(t, segs, a)
		for i, f := range all.Hits {
			a.Behind, a.Last = true, f
			for _, from := range []int{0, 1, 2, 5} {
				a.From, a.Size = from, 1+source.Intn(4)
				rest := all.Hits[min(i+1+from, len(all.Hits)):]
				wantSearch(t, scene(), segs, a, impl.Result{Total: all.Total, Hits: rest[:min(a.Size, len(rest))]}, impl.OK)
			}
		}
	}
}

func TestSearchCollapsed(t *testing.T) {
	docs := []impl.Doc{
		docWith("a", numbersIn("n", 5), textsIn("w", "red")),
		docWith("b", numbersIn("n", 3), textsIn("w", "blue", "red")),
		docWith("c", numbersIn("n", 9), textsIn("w", "red", "blue")),
		docWith("d", numbersIn("n", 4)),
		docWith("e", textsIn("w", "blue")),
		docWith("f"),
		docWith("g", numbersIn("n", 1, 8), textsIn("w", "Red", "red", "red")),
		docWith("h", numbersIn("n", 4), textsIn("t", "red")),
		docWith("i", numbersIn("n", 2), textsIn("w", "red ")),
	}
	all := queryOf(t, "*")
	for _, c := range []struct {
		a     impl.Ask
		total int
		ids   string
	}{
		{impl.Ask{Query: all, Size: 9}, 9, "a b c d e f g h i"},
		{impl.Ask{Query: all, Size: 9, Collapse: "w"}, 9, "a b d f g h i"},
		{impl.Ask{Query: all, Size: 9, Sort: up("n"), Collapse: "w"}, 9, "g i b d h a f"},
		{impl.Ask{Query: all, Size: 9, Sort: down("n"), Collapse: "w"}, 9, "c g d h b i f"},
		{impl.Ask{Query: all, Size: 2, From: 1, Sort: down("n"), Collapse: "w"}, 9, "g d"},
		// The best of all hits is left, also if it is passed over or not behind Last.
		{impl.Ask{Query: all, Size: 9, From: 1, Collapse: "w"}, 9, "b d f g h i"},
		{impl.Ask{Query: all, Size: 9, Sort: up("n"), Collapse: "w", Behind: true, Last: last("z", 0, 4)}, 9, "a f"},
		{impl.Ask{Query: all, Size: 9, Sort: up("n"), Collapse: "w", Behind: true, Last: last("a", 1024, 5)}, 9, "f"},
		{impl.Ask{Query: all, Size: 9, Collapse: "w", Behind: true, Last: last("b", 1024)}, 9, "d f g h i"},
		// Only hits count, and of those the score ahead of the id.
		{impl.Ask{Query: queryOf(t, "w:red n:9"), Size: 9, Collapse: "w"}, 4, "c g b"},
		{impl.Ask{Query: queryOf(t, "w:red -n:5"), Size: 9, Collapse: "w"}, 3, "g b c"},
		{impl.Ask{Query: queryOf(t, "w:blue"), Size: 9, Collapse: "w"}, 3, "e c"},
		{impl.Ask{Query: queryOf(t, "w:blue*"), Size: 9, Collapse: "w"}, 3, "b c"},
		{impl.Ask{Query: queryOf(t, "-w:~\"*\""), Size: 9, Collapse: "w"}, 3, "d f h"},
	} {
		for _, segs := range [][][]impl.Doc{oneSegment(docs), cutAt(docs, 2, 1, 0, 4)} {
			wantTold(t, small(), segs, c.a, c.total, c.ids)
		}
	}
}

// No two hits have the same first text; of each text that a hit has first the one
// is told that stands ahead of all its likes in the whole.
func TestSearchCollapsedTellsTheBest(t *testing.T) {
	source := rand.New(rand.NewSource(27))
	fewer := 0
	for range 120 {
		docs := stockDocs(source, source.Intn(25))
		a := impl.Ask{Query: randomSceneBranch(source, 3).query(), Sort: randomKeys(source)}
		segs := randomCut(source, docs)
		all := whole(t, segs, a)
		a.Collapse = "tag"
		left := whole(t, segs, a)
		told := map[string]int{}
		var want []impl.Found
		for _, f := range all.Hits {
			at := slices.IndexFunc(docs, func(d impl.Doc) bool { return d.Id == f.Id })
			text := firstIn(docs[at], "tag")
			if told[text]++; told[text] == 1 {
				want = append(want, f)
			}
		}
		if left.Total != all.Total || !slices.EqualFunc(left.Hits, want, sameFound) {
			t.Errorf("%s: %s, want %v of %d", shortAsk(a), shortResult(left), want, all.Total)
		}
		fewer += btoi(len(left.Hits) < len(all.Hits))
	}
	if fewer < 30 {
		t.Errorf("only %d times there are fewer", fewer)
	}
}

// Total counts the hits of Meaning, whatever is left of them.
func TestSearchTotal(t *testing.T) {
	source := rand.New(rand.NewSource(28))
	for range 40 {
		docs := stockDocs(source, 10)
		q := randomSceneBranch(source, 3).query()
		hits, _ := impl.Meaning(scene(), docs, q)
		for range 10 {
			a := randomAsk(source, docs, q)
			if r := mustSearch(t, scene(), randomCut(source, docs), a); r.Total != len(hits) {
				t.Errorf("%s: Total %d, want %d", shortAsk(a), r.Total, len(hits))
			}
		}
	}
}
