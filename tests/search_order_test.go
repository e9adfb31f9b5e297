package tests

import (
	"fmt"
	"math"
	"math/rand"
	"slices"
	"testing"

	"loop.example/g00018/impl"
)

// pile is documents of small that every query of theirs scores alike.
func pile() []impl.Doc {
	return []impl.Doc{
		docWith("e", numbersIn("n", 5)),
		docWith("c", numbersIn("n", 3, 9)),
		docWith("g"),
		docWith("a", numbersIn("n", 5)),
		docWith("f"),
		docWith("b", numbersIn("n", -7, 4, -8)),
		docWith("d", numbersIn("n", 0)),
	}
}

func TestSearchOrder(t *testing.T) {
	all := queryOf(t, "*")
	for _, c := range []struct {
		keys []impl.SortKey
		ids  string
	}{
		{nil, "a b c d e f g"},
		{[]impl.SortKey{}, "a b c d e f g"},
		{up("n"), "b d c a e f g"},
		{down("n"), "c a e b d f g"},
		{up("n", "n"), "b d c a e f g"},
		{down("n", "n", "n", "n"), "c a e b d f g"},
		{append(up("n"), down("n")...), "b d c a e f g"},
		{append(down("n"), up("n")...), "c a e b d f g"},
	} {
		for _, segs := range [][][]impl.Doc{oneSegment(pile()), cutAt(pile(), 3), cutAt(pile(), 1, 0, 4, 1)} {
			wantTold(t, small(), segs, impl.Ask{Query: all, Size: 9, Sort: c.keys}, 7, c.ids)
		}
	}
}

// The greatest score counts behind the keys and ahead of the id.
func TestSearchOrderOfScores(t *testing.T) {
	docs := []impl.Doc{
		docWith("a", numbersIn("n", 1), textsIn("w", "x")),
		docWith("b", numbersIn("n", 1), textsIn("w", "x", "y")),
		docWith("c", numbersIn("n", 2), textsIn("w", "x", "y", "z")),
		docWith("d", textsIn("w", "x", "y", "z")),
		docWith("e", numbersIn("n", 1), textsIn("w", "y")),
		docWith("f", textsIn("w", "z")),
		docWith("g", textsIn("w", "z", "x")),
	}
	q := queryOf(t, "w:x* w:y*^2 w:z*^4")
	for _, segs := range [][][]impl.Doc{oneSegment(docs), cutAt(docs, 2, 3)} {
		wantTold(t, small(), segs, impl.Ask{Query: q, Size: 9}, 7, "c d g f b e a")
		wantTold(t, small(), segs, impl.Ask{Query: q, Size: 9, Sort: up("n")}, 7, "b e a c d g f")
		wantTold(t, small(), segs, impl.Ask{Query: q, Size: 9, Sort: down("n")}, 7, "c b e a d g f")
	}
	wantSearch(t, small(), cutAt(docs, 2, 3), impl.Ask{Query: q, Size: 4, From: 2, Sort: down("n")}, impl.Result{Total: 7, Hits: []impl.Found{last("e", 2048, 1), last("a", 1024, 1), last("d", 7168, noKey), last("g", 5120, noKey)}}, impl.OK)
	wantSearch(t, small(), cutAt(docs, 2, 3), impl.Ask{Query: q, Size: 2}, impl.Result{Total: 7, Hits: []impl.Found{last("c", 7168), last("d", 7168)}}, impl.OK)
}

// Each key has its own least or greatest number, and those without one come last
// among those that the keys ahead leave alike.
func TestSearchOrderOfSeveralKeys(t *testing.T) {
	s := schemaOf(numberField("a"), numberField("b"), numberField("c"))
	var docs []impl.Doc
	for i, c := range []struct{ a, b, c []int }{
		{[]int{1}, []int{1}, nil}, {[]int{1}, []int{2}, nil}, {[]int{1}, nil, []int{3}}, {[]int{1}, nil, nil}, {[]int{2, 1}, []int{2}, []int{-1}}, {nil, []int{1}, nil}, {nil, nil, []int{1}}, {nil, []int{1, 2}, []int{5}}, {nil, nil, nil}, {[]int{1}, []int{1}, []int{0}},
	} {
		var values []impl.Value
		for j, numbers := range [][]int{c.a, c.b, c.c} {
			if numbers != nil {
				values = append(values, numbersIn([]string{"a", "b", "c"}[j], numbers...))
			}
		}
		docs = append(docs, docWith(fmt.Sprint(i), values...))
	}
	mixed := []impl.SortKey{{Field: "a"}, {Field: "b", Down: true}, {Field: "c"}}
	all := queryOf(t, "*")
	wantTold(t, s, cutAt(docs, 4, 4), impl.Ask{Query: all, Size: 10, Sort: mixed}, 10, "4 1 9 0 2 3 7 5 6 8")
	wantTold(t, s, cutAt(docs, 4, 4), impl.Ask{Query: all, Size: 10, Sort: up("a", "b", "c")}, 10, "9 0 4 1 2 3 7 5 6 8")
	wantTold(t, s, cutAt(docs, 4, 4), impl.Ask{Query: all, Size: 10, Sort: down("a", "b", "c")}, 10, "4 1 9 0 2 3 7 5 6 8")
	wantTold(t, s, cutAt(docs, 4, 4), impl.Ask{Query: all, Size: 10, Sort: append(down("c"), up("a")...)}, 10, "7 2 6 9 4 0 1 3 5 8")
	var told [][]int
	for _, f := range mustSearch(t, s, oneSegment(docs), impl.Ask{Query: all, Size: 10, Sort: mixed}).Hits {
		told = append(told, f.Keys)
	}
	if fmt.Sprint(told) != fmt.Sprintf("[[1 2 -1] [1 2 %d] [1 1 0] [1 1 %d] [1 %d 3] [1 %d %d] [%d 2 5] [%d 1 %d] [%d %d 1] [%d %d %d]]", noKey, noKey, noKey, noKey, noKey, noKey, noKey, noKey, noKey, noKey, noKey, noKey, noKey) {
		t.Errorf("the keys are %v", told)
	}
}

// All choices of keys, up to MaxSort of them, with documents of every kind.
func TestSearchOrderOfAllKeys(t *testing.T) {
	docs := stockDocs(rand.New(rand.NewSource(20)), 30)
	q := queryOf(t, "cat tag:red n:[* *]")
	hits := senseOf(scene(), docs).hits(q)
	lists := [][]impl.SortKey{nil}
	for i := 0; i < len(lists); i++ {
		a := impl.Ask{Query: q, Size: 40, Sort: lists[i]}
		wantSearch(t, scene(), cutAt(docs, 11), a, pageOf(docs, hits, a), impl.OK)
		for _, key := range append(up("n", "year"), down("n", "year")...) {
			if len(lists[i]) < 4 {
				lists = append(lists, append(slices.Clone(lists[i]), key))
			}
		}
	}
	if len(lists) != 1+4+16+64+256 {
		t.Errorf("%d lists of keys", len(lists))
	}
}

// The ends of what a number may be stand ahead of no number, either way.
func TestSearchOrderAtTheBounds(t *testing.T) {
	docs := []impl.Doc{
		docWith("none"),
		docWith("most", numbersIn("n", greatestNumber)),
		docWith("least", numbersIn("n", -greatestNumber)),
		docWith("both", numbersIn("n", greatestNumber, -greatestNumber)),
		docWith("zero", numbersIn("n", 0)),
		docWith("A"),
	}
	all := queryOf(t, "*")
	wantTold(t, small(), cutAt(docs, 2), impl.Ask{Query: all, Size: 9, Sort: up("n")}, 6, "both least zero most A none")
	wantTold(t, small(), cutAt(docs, 2), impl.Ask{Query: all, Size: 9, Sort: down("n")}, 6, "both most zero least A none")
	if impl.NoKey != noKey || impl.NoKey <= greatestNumber {
		t.Errorf("NoKey is %d", impl.NoKey)
	}
}

// Behind goes by Last's Keys, Score and Id, be it a hit or not.
func TestSearchBehind(t *testing.T) {
	all := queryOf(t, "*")
	for _, c := range []struct {
		keys []impl.SortKey
		last impl.Found
		ids  string
	}{
		// By score and id alone.
		{nil, last("c", 1024), "d e f g"}, {nil, last("g", 1024), ""}, {nil, last("a", 1024), "b c d e f g"}, {nil, last("", 1024), "a b c d e f g"}, {nil, last("bb", 1024), "c d e f g"}, {nil, last("c", 1025), "a b c d e f g"}, {nil, last("c", 1023), ""}, {nil, impl.Found{}, ""},
		{nil, last("\xff", math.MaxInt), "a b c d e f g"}, {nil, last("", math.MinInt), ""}, {nil, last("\xff", 1024), ""},
		// Rising: b -8, d 0, c 3, a 5, e 5, f, g.
		{up("n"), last("b", 1024, -8), "d c a e f g"}, {up("n"), last("a", 1024, 5), "e f g"}, {up("n"), last("e", 1024, 5), "f g"}, {up("n"), last("aa", 1024, 5), "e f g"}, {up("n"), last("z", 1024, 4), "a e f g"}, {up("n"), last("a", 1024, 4), "a e f g"}, {up("n"), last("a", 1023, 5), "f g"}, {up("n"), last("z", 1025, 5), "a e f g"},
		{up("n"), last("z", 0, -9), "b d c a e f g"}, {up("n"), last("z", 0, math.MinInt), "b d c a e f g"}, {up("n"), last("a", 1024, 6), "f g"}, {up("n"), last("z", 0, greatestNumber), "f g"},
		{up("n"), last("e", 1024, noKey), "f g"}, {up("n"), last("f", 1024, noKey), "g"}, {up("n"), last("g", 1024, noKey), ""}, {up("n"), last("f", 1025, noKey), "f g"}, {up("n"), last("f", 1023, noKey), ""},
		// Falling: c 9, a 5, e 5, b 4, d 0, f, g.
		{down("n"), last("c", 1024, 9), "a e b d f g"}, {down("n"), last("a", 1024, 5), "e b d f g"}, {down("n"), last("z", 1024, 5), "b d f g"}, {down("n"), last("d", 1024, 0), "f g"}, {down("n"), last("f", 1024, noKey), "g"}, {down("n"), last("", 1024, noKey), "f g"}, {down("n"), last("g", 1024, noKey), ""},
		{down("n"), last("z", 0, 10), "c a e b d f g"}, {down("n"), last("z", 0, math.MaxInt), "c a e b d f g"}, {down("n"), last("z", 0, greatestNumber), "c a e b d f g"}, {down("n"), last("", 2048, -greatestNumber), "f g"}, {down("n"), last("", 2048, math.MinInt), "f g"}, {down("n"), last("z", 0, -1), "f g"},
		// Without a key is behind all that has one, a great one too.
		{up("n"), last("z", 0, noKey+1), "f g"}, {up("n"), last("z", 0, math.MaxInt), "f g"}, {up("n"), last("z", 0, noKey-1), "f g"}, {down("n"), last("z", 0, noKey+1), "c a e b d f g"},
		// Of two keys the second counts where the first is the same.
		{append(down("n"), up("n")...), last("a", 1024, 5, 5), "e b d f g"}, {append(down("n"), up("n")...), last("z", 0, 5, 4), "a e b d f g"}, {append(down("n"), up("n")...), last("", 9999, 5, noKey), "b d f g"}, {append(down("n"), up("n")...), last("", 9999, noKey, 7), "f g"}, {append(down("n"), up("n")...), last("f", 1024, noKey, noKey), "g"},
	} {
		for _, segs := range [][][]impl.Doc{oneSegment(pile()), cutAt(pile(), 2, 2, 0, 2)} {
			wantTold(t, small(), segs, impl.Ask{Query: all, Size: 9, Sort: c.keys, Behind: true, Last: c.last}, 7, c.ids)
			// Last without Behind is not looked at.
			wantSameSearch(t, small(), segs, impl.Ask{Query: all, Size: 9, Sort: c.keys, Last: c.last})
		}
	}
}

// Every hit as Last, with what it has and with a little more and less.
func TestSearchBehindEach(t *testing.T) {
	source := rand.New(rand.NewSource(21))
	docs := stockDocs(source, 14)
	segs := randomCut(source, docs)
	q := queryOf(t, "cat dog^2 * -tag:x")
	hits := senseOf(scene(), docs).hits(q)
	for _, keys := range [][]impl.SortKey{nil, up("n"), down("year"), append(down("n"), up("year")...)} {
		want := func(f impl.Found) {
			t.Helper()
			a := impl.Ask{Query: q, Size: 20, Sort: keys, Behind: true, Last: f}
			wantSearch(t, scene(), segs, a, pageOf(docs, hits, a), impl.OK)
		}
		for _, f := range pageOf(docs, hits, impl.Ask{Sort: keys, Size: 20}).Hits {
			want(f)
			for _, more := range []int{-1, 1} {
				want(last(f.Id, f.Score+more, f.Keys...))
				for i, n := range f.Keys {
					for _, key := range []int{n + more, noKey} {
						want(last(f.Id, f.Score, slices.Replace(slices.Clone(f.Keys), i, i+1, key)...))
					}
				}
			}
		}
	}
}
