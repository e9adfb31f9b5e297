package tests

import (
	"fmt"
	"math"
	"slices"
	"testing"

	"loop.example/g00018/impl"
)

func TestSearchLimitsOnSegments(t *testing.T) {
	all := queryOf(t, "*")
	for n := range 17 {
		segs := make([][]impl.Doc, n)
		for i := range segs {
			segs[i] = []impl.Doc{docWith(fmt.Sprintf("%02d", i))}
		}
		r := mustSearch(t, small(), segs, impl.Ask{Query: all, Size: 20})
		if r.Total != n || len(r.Hits) != n || n > 0 && r.Hits[n-1].Id != fmt.Sprintf("%02d", n-1) {
			t.Errorf("%d segments: %s", n, shortResult(r))
		}
	}
	wantSearch(t, small(), make([][]impl.Doc, 16), impl.Ask{Query: all}, impl.Result{}, impl.OK)
	wantSearch(t, small(), make([][]impl.Doc, 17), impl.Ask{Query: all}, impl.Result{}, impl.ErrMany)
	wantSearch(t, small(), make([][]impl.Doc, 1<<20), impl.Ask{Query: all}, impl.Result{}, impl.ErrMany)
	docs := numbered(17)
	wantSearch(t, small(), append(make([][]impl.Doc, 16), docs), impl.Ask{Query: all}, impl.Result{}, impl.ErrMany)
}

func TestSearchLimitsOnDocs(t *testing.T) {
	all := impl.Ask{Query: queryOf(t, "*"), Size: 1}
	docs := numbered(600)
	for _, c := range []struct {
		segs [][]impl.Doc
		code int
	}{
		{[][]impl.Doc{docs[:255]}, impl.OK}, {[][]impl.Doc{docs[:256]}, impl.OK}, {[][]impl.Doc{docs[:257]}, impl.ErrMany},
		{[][]impl.Doc{docs[:1], docs[1:257]}, impl.OK}, {[][]impl.Doc{docs[:1], docs[1:258]}, impl.ErrMany}, {[][]impl.Doc{nil, docs[:257], nil}, impl.ErrMany}, {[][]impl.Doc{docs[:512]}, impl.ErrMany},
		{[][]impl.Doc{docs[:256], docs[256:511]}, impl.OK}, {[][]impl.Doc{docs[:256], docs[256:512]}, impl.OK}, {[][]impl.Doc{docs[:256], docs[256:512], docs[512:513]}, impl.ErrMany}, {[][]impl.Doc{docs[:171], docs[171:342], docs[342:513]}, impl.ErrMany}, {[][]impl.Doc{docs[:170], docs[170:340], docs[340:512], nil}, impl.OK},
	} {
		want := impl.Result{}
		if c.code == impl.OK {
			want = impl.Result{Total: len(slices.Concat(c.segs...)), Hits: []impl.Found{last("d000", 1024)}}
		}
		wantSearch(t, small(), c.segs, all, want, c.code)
	}
}

// From and Size at their bounds, on more documents than a page and on fewer.
func TestSearchLimitsOnPages(t *testing.T) {
	docs := numbered(512)
	segs := cutAt(docs, 256)
	numbers := []int{math.MinInt, -1001, -1, 0, 1, 2, 510, 511, 512, 513, 999, 1000, 1001, 1002, math.MaxInt}
	for _, from := range numbers {
		for _, size := range numbers {
			a := impl.Ask{Query: queryOf(t, "*"), From: from, Size: size}
			if from < 0 || from > 1000 || size < 0 || size > 1000 {
				wantSearch(t, small(), segs, a, impl.Result{}, impl.ErrRange)
				wantSearch(t, small(), nil, a, impl.Result{}, impl.ErrRange)
				continue
			}
			r := mustSearch(t, small(), segs, a)
			told := docs[min(from, 512):min(from+size, 512)]
			if r.Total != 512 || len(r.Hits) != len(told) {
				t.Fatalf("%d from %d: %d hits of %d", size, from, len(r.Hits), r.Total)
			}
			for i, f := range r.Hits {
				if !sameFound(f, last(told[i].Id, 1024)) {
					t.Errorf("%d from %d: hit %d is %v", size, from, i, f)
				}
			}
		}
	}
}

// From at and beyond what is left, with all that leaves less.
func TestSearchFromBeyondWhatIsLeft(t *testing.T) {
	all := queryOf(t, "*")
	for _, c := range []struct {
		a    impl.Ask
		left []string
	}{
		{impl.Ask{Query: all}, []string{"a", "b", "c", "d", "e", "f", "g"}},
		{impl.Ask{Query: all, Sort: up("n"), Behind: true, Last: last("a", 1024, 5)}, []string{"e", "f", "g"}},
		{impl.Ask{Query: all, Behind: true, Last: last("g", 1024)}, nil},
		{impl.Ask{Query: queryOf(t, "n:[4 5]"), Sort: down("n")}, []string{"a", "e", "b"}},
		{impl.Ask{Query: queryOf(t, "t:x")}, nil},
	} {
		total := len(mustSearch(t, small(), cutAt(pile(), 4), impl.Ask{Query: c.a.Query, Size: 9}).Hits)
		for from := range 10 {
			for size := range 10 {
				c.a.From, c.a.Size = from, size
				var want []string
				if from < len(c.left) {
					want = c.left[from:min(from+size, len(c.left))]
				}
				r := mustSearch(t, small(), cutAt(pile(), 4), c.a)
				var ids []string
				for _, f := range r.Hits {
					ids = append(ids, f.Id)
				}
				if r.Total != total || !slices.Equal(ids, want) {
					t.Errorf("%s: %s, want %v of %d", shortAsk(c.a), shortResult(r), want, total)
				}
			}
		}
	}
}

func TestSearchLimitsOnKeys(t *testing.T) {
	all := queryOf(t, "*")
	for n := range 8 {
		for _, field := range []string{"n", "w", "none"} {
			a := impl.Ask{Query: all, Size: 9, Sort: slices.Repeat(up(field), n)}
			wantSameSearch(t, small(), cutAt(pile(), 2), a)
			if code := searchCode(small(), cutAt(pile(), 2), a); (code == impl.ErrRange) != (n > 4) {
				t.Errorf("%d keys: code %d", n, code)
			}
		}
	}
	wantSearch(t, small(), oneSegment(pile()), impl.Ask{Query: all, Sort: make([]impl.SortKey, 1<<20)}, impl.Result{}, impl.ErrRange)
	r := mustSearch(t, small(), oneSegment(pile()), impl.Ask{Query: all, Size: 1, Sort: append(up("n", "n"), down("n", "n")...)})
	if !sameResult(r, impl.Result{Total: 7, Hits: []impl.Found{last("b", 1024, -8, -8, 4, 4)}}) {
		t.Errorf("%s", shortResult(r))
	}
}

// A score that is cut, and boosts one in the other.
func TestSearchOfGreatScores(t *testing.T) {
	docs := []impl.Doc{docWith("a", textsIn("w", "x")), docWith("b", textsIn("w", "x", "y")), docWith("c")}
	deep := leaf(impl.Node{Kind: impl.QPrefix, Field: "w", Text: "x", Boost: 99})
	more := leaf(impl.Node{Kind: impl.QPrefix, Field: "w", Text: "y", Boost: 99})
	for range 6 {
		deep, more = group(deep).boosted(99), group(more).boosted(99)
	}
	for _, b := range []branch{deep, group(deep, more), group(deep.with(must), more), group(deep.with(must), more.with(must)), group(deep, allLeaf()).boosted(99)} {
		q := b.query()
		a := impl.Ask{Query: q, Size: 5}
		hits := senseOf(small(), docs).hits(q)
		wantSearch(t, small(), cutAt(docs, 1), a, pageOf(docs, hits, a), impl.OK)
		if hits[0].Score != mostScore {
			t.Errorf("%s: the greatest score is %d", textOf(q), hits[0].Score)
		}
	}
}

// Great documents, all fields and the most nodes: it ends, and tells as Meaning.
func TestSearchOfGreatArguments(t *testing.T) {
	docs := numbered(200)
	for i := range docs {
		docs[i].Values = []impl.Value{numbersIn("n", i%7), textsIn("t", crowdedText(i))}
	}
	b := group()
	for i := range 63 {
		kids := []branch{termLeaf(fmt.Sprint("k", i)), leaf(impl.Node{Kind: impl.QPrefix, Text: fmt.Sprint("k", i)}), leaf(impl.Node{Kind: impl.QWild, Text: fmt.Sprintf("k%d?", i)}), leaf(impl.Node{Kind: impl.QPhrase, Text: fmt.Sprintf("k%d k%d", i, i+1), Slop: 20})}
		b.below = append(b.below, kids[i%4])
	}
	q := b.query()
	hits, code := impl.Meaning(small(), docs, q)
	for _, segs := range [][][]impl.Doc{oneSegment(docs), cutAt(docs, 50, 50, 50)} {
		a := impl.Ask{Query: q, Size: 1000, Sort: down("n")}
		wantSearch(t, small(), segs, a, pageOf(docs, hits, a), code)
	}
}

// crowdedText tells words of which documents have some in common.
func crowdedText(seed int) string {
	text := ""
	for i := range 300 {
		text += fmt.Sprintf("k%d ", (i*i+7*seed)%(100+seed))
	}
	return text
}
