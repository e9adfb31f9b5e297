package tests

import (
	"fmt"
	"math/rand"
	"strings"
	"testing"

	"loop.example/g00018/impl"
)

// kindTexts are queries of every kind, on every kind of field, and with kids of
// each role.
func kindTexts() []string {
	return []string{
		"*", "cat", "body:CATS", "plain:cat", "grams:ab", "tag:red", "n:7", `n:\-5`, "year:1900", "none", "the",
		`"cat dog"`, `body:"cat dog"~2`, `plain:"dog cat"~3`, `tag:"red blue"`, `n:"5"`, `""`,
		"ca*", "tag:r*", "n:5*", "body:PE*", `~"?a*"`, `tag:~"*e*"`, `plain:~"C?t"`, "cet~1", "tag:rod~2", "plain:CET~2",
		"n:[5 7]", "n:[* *]", "year:[-2000 0]", "tag:[* *]", "n:[6 6]",
		"cat dog", "+cat dog", "+cat +dog", "cat -dog", "-cat", "-cat -dog", "-*", "+cat -dog pet", "+cat +tag:red n:[* *]^5", "-none", "+none cat", "none cat",
		"(cat dog pet)@2", "(cat dog pet)@3", "(cat dog pet)@4", "(+cat dog pet)@1", "(+cat dog pet)@2", "(+cat dog -pet)@1", "(cat)@64", "(-cat)@1", "(-cat +dog)@1",
		"(cat -dog)^3 tag:red", "+(cat dog) +(tag:red tag:blue) -(n:5 year:1900)", "-(-cat)", "-(-(-cat))", "((cat)) (+(dog)^2)^3", "* cat -(tag:red n:7)", "+* +* -none cat^99", "(* -cat) (* -dog)", "+(-cat) +(-dog)", "+(cat -dog) (dog -cat)", "+(+cat +dog) +(+dog +cat)", "(+cat -*) *",
	}
}

func TestSearchOfEachKind(t *testing.T) {
	docs := sceneDocs()
	m := senseOf(scene(), docs)
	for _, text := range kindTexts() {
		q := queryOf(t, text)
		hits := m.hits(q)
		for _, segs := range [][][]impl.Doc{oneSegment(docs), cutAt(docs, 3), cutAt(docs, 1, 1, 1, 1, 1), cutAt(docs, 0, 2, 0, 4)} {
			for _, a := range []impl.Ask{{Query: q, Size: 10}, {Query: q, Size: 10, Sort: up("n")}, {Query: q, Size: 3, From: 1, Sort: down("year", "n")}, {Query: q, Size: 10, Collapse: "tag"}} {
				wantSearch(t, scene(), segs, a, pageOf(docs, hits, a), impl.OK)
			}
		}
	}
}

// All small groups: each list of kids, with each role and each Min, on documents
// that have each choice of the words.
func TestSearchOfAllSmallGroups(t *testing.T) {
	s := schemaOf(numberField("n"), wordField("w"))
	words := []string{"x", "y", "z"}
	var docs []impl.Doc
	for i := range 8 {
		var has []string
		for bit, word := range words {
			if i>>bit&1 == 1 {
				has = append(has, word)
			}
		}
		d := docWith(fmt.Sprint((3*i+1)%8), numbersIn("n", i%3))
		if has != nil {
			d.Values = append(d.Values, textsIn("w", has...))
		}
		docs = append(docs, d)
	}
	m := senseOf(s, docs)
	for code := range 27 {
		for least := range 5 {
			b := group().atLeast(least).boosted(1 + least%2)
			for i, word := range words {
				kid := leaf(impl.Node{Kind: impl.QPrefix, Field: "w", Text: word, Boost: 1 << i})
				b.below = append(b.below, kid.with([]int{code % 3, code / 3 % 3, code / 9}[i]))
			}
			for _, q := range []impl.Query{b.query(), group(b, allLeaf().with(must)).query(), group(b.with(mustNot)).query(), group(b.with(must), group(b.with(must), allLeaf())).query()} {
				a := impl.Ask{Query: q, Size: 10}
				wantSearch(t, s, cutAt(docs, 3), a, pageOf(docs, m.hits(q), a), impl.OK)
				wantMeaning(t, s, docs, q, m.hits(q), impl.OK)
			}
		}
	}
}

func TestSearchOfRandomAsks(t *testing.T) {
	source := rand.New(rand.NewSource(22))
	told, cut := 0, 0
	for range 300 {
		docs := stockDocs(source, source.Intn(20))
		if source.Intn(2) == 0 {
			docs = randomSceneDocs(source)
		}
		m := senseOf(scene(), docs)
		for range 12 {
			q := randomSceneBranch(source, 4).query()
			a := randomAsk(source, docs, q)
			want := pageOf(docs, m.hits(q), a)
			wantSearch(t, scene(), randomCut(source, docs), a, want, impl.OK)
			told += btoi(len(want.Hits) > 0)
			cut += btoi(len(want.Hits) > 0 && want.Total > len(want.Hits))
		}
	}
	if told < 600 || cut < 300 {
		t.Errorf("only %d searches tell anything, %d of them not all", told, cut)
	}
}

// Long lists that leap over each other: words of which each stands in every so
// manieth document.
func TestSearchOfLongLists(t *testing.T) {
	steps := []int{2, 3, 5, 7, 50, 256, 511}
	docs := numbered(512)
	for i := range docs {
		var words []string
		for _, step := range steps {
			if i%step == step-1 {
				words = append(words, fmt.Sprint("w", step))
			}
		}
		docs[i].Values = []impl.Value{numbersIn("n", i%10), textsIn("t", strings.Join(words, " "))}
	}
	segs := cutAt(docs, 256)
	for _, text := range []string{
		"w2", "+w2 +w3", "+w3 +w2", "+w2 +w3 +w5 +w7", "+w7 +w5 +w3 +w2", "+w511 +w7", "+w7 +w511", "+w256 +w2", "w2 w3 -w5", "+w2 w3 -w5 -w7", "(w2 w3 w5 w7 w50)@3", "(w2 w3 w5 w7 w50)@5", "+(w2 w3)@2 +(w5 w7)", "-w2 -w3", "+w3 -(w5 w7)@2 w50^9", "+w2 +none", "w511 w256 w50", "* -w2", "+* +w7", "+w5 +(-w2)", "+(w2 -w3) +(w5 -w7)",
	} {
		q := queryOf(t, text)
		hits, code := impl.Meaning(small(), docs, q)
		for _, a := range []impl.Ask{{Query: q, Size: 1000}, {Query: q, Size: 20, From: 30, Sort: up("n")}, {Query: q, Size: 1000, Sort: down("n"), Behind: true, Last: last("d100", 0, 4)}} {
			wantSearch(t, small(), segs, a, pageOf(docs, hits, a), code)
		}
	}
	if hits, _ := impl.Meaning(small(), docs, queryOf(t, "+w2 +w3 +w5 +w7")); idsOf(hits) != "d209 d419" {
		t.Errorf("all four are in %s", idsOf(hits))
	}
}

// Scores are those of all documents together, whatever segment one is in.
func TestSearchScoresOverAllSegments(t *testing.T) {
	docs := []impl.Doc{
		docWith("a", textsIn("t", "cat")), docWith("b", textsIn("t", "cat cat dog")), docWith("c", textsIn("t", "dog dog dog dog dog")), docWith("d", textsIn("t", "cat dog")), docWith("e"),
	}
	n, total := 5, 11
	want := []impl.Hit{
		{Id: "a", Score: weightOf(n, 3) * strengthOf(1, 1, n, total) / 1000},
		{Id: "b", Score: weightOf(n, 3) * strengthOf(2, 3, n, total) / 1000},
		{Id: "d", Score: weightOf(n, 3) * strengthOf(1, 2, n, total) / 1000},
	}
	for _, segs := range [][][]impl.Doc{oneSegment(docs), cutAt(docs, 1, 1, 1, 1), cutAt(docs, 1), cutAt(docs, 4), cutAt(docs, 0, 0, 2, 0)} {
		a := impl.Ask{Query: queryOf(t, "cat"), Size: 5}
		wantSearch(t, small(), segs, a, pageOf(docs, want, a), impl.OK)
	}
}

func TestSearchOfNoDocs(t *testing.T) {
	for _, segs := range [][][]impl.Doc{nil, {}, {nil}, {{}, nil, {}}, make([][]impl.Doc, 16)} {
		for _, text := range kindTexts() {
			for _, a := range []impl.Ask{{Size: 5}, {Size: 5, From: 3, Sort: up("n", "year"), Collapse: "tag"}, {Size: 5, Behind: true}} {
				a.Query = queryOf(t, text)
				wantSearch(t, scene(), segs, a, impl.Result{}, impl.OK)
			}
		}
	}
}

// A segment may have more terms than a Segment's field takes, and more states.
func TestSearchOfManyTerms(t *testing.T) {
	var docs []impl.Doc
	for i := range 20 {
		var b strings.Builder
		for j := range 400 {
			fmt.Fprintf(&b, "w%dx%d ", i, j)
		}
		docs = append(docs, docWith(fmt.Sprint("d", i), textsIn("t", b.String())))
	}
	if _, code := impl.BuildSegment(small(), docs); code != impl.ErrMany {
		t.Fatalf("a segment of them has code %d", code)
	}
	wantTold(t, small(), oneSegment(docs), impl.Ask{Query: queryOf(t, "w7x399"), Size: 5}, 1, "d7")
	wantTold(t, small(), cutAt(docs, 10), impl.Ask{Query: queryOf(t, "w1* -w1x5"), Size: 3}, 10, "d10 d11 d12")
}
