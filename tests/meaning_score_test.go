package tests

import (
	"fmt"
	"slices"
	"strings"
	"testing"

	"loop.example/g00018/impl"
)

func hit(id string, score int) impl.Hit {
	return impl.Hit{Id: id, Score: score}
}

// wantScores holds the hits of a query's text, written down, against both tellings.
func wantScores(t *testing.T, s impl.Schema, docs []impl.Doc, text string, want ...impl.Hit) {
	t.Helper()
	q := queryOf(t, text)
	wantMeaning(t, s, docs, q, want, impl.OK)
	wantSameMeaning(t, s, docs, q)
}

func TestMeaningScoresWritten(t *testing.T) {
	docs := []impl.Doc{
		docWith("a", numbersIn("n", 1, 2), textsIn("t", "x y x y"), textsIn("w", "p", "q", "p")),
		docWith("b", numbersIn("n", 2), textsIn("t", "y"), textsIn("w", "p")),
		docWith("c"),
		docWith("d", textsIn("t", "y", "z")),
	}
	// Weights of 4 documents: 1 has it: log2(1024 * 7 / 3 + 1024) - 10240 = 1778; 2: 1024; 3: 1024 * 3 / 7 + 1024 = 1462: 526.
	one, two, three := 1778, 1024, 526
	// The lengths are 4, 1, 0 and 2, 7 in all: of length 4 it is 900 * 4 * 4 / 7 = 2057, of 1 514, of 2 1028.
	wantScores(t, small(), docs, "x", hit("a", one*(2*2200000/(2300+2057))/1000))
	wantScores(t, small(), docs, "y", hit("b", three*(2200000/(1300+514))/1000), hit("a", three*(2*2200000/(2300+2057))/1000), hit("d", three*(2200000/(1300+1028))/1000))
	wantScores(t, small(), docs, "t:z", hit("d", one*(2200000/(1300+1028))/1000))
	wantScores(t, small(), docs, `"x y"`, hit("a", (one+three)*(2*2200000/(2300+2057))/1000))
	wantScores(t, small(), docs, `"y x"`, hit("a", (one+three)*(2200000/(1300+2057))/1000))
	wantScores(t, small(), docs, `"y x y"~1`, hit("a", (one+2*three)*(2200000/(1300+2057))/1000))
	// Words: lengths 3, 1, 0, 0: of 3 it is 900 * 3 * 4 / 4 = 2700, of 1 900.
	wantScores(t, small(), docs, "w:p", hit("b", two*(2200000/(1300+900))/1000), hit("a", two*(2*2200000/(2300+2700))/1000))
	wantScores(t, small(), docs, `w:"q"~7`, hit("a", one*(2200000/(1300+2700))/1000))
	for _, text := range []string{"n:2", "n:[1 2]", "y*", `~"?"`, "w:pq~1", "w:p*", `w:~"p"`} {
		for _, h := range senseOf(small(), docs).hits(queryOf(t, text)) {
			if h.Score != 1024 {
				t.Errorf("%s: %v", text, h)
			}
		}
	}
	wantScores(t, small(), docs, "n:[1 2]", hit("a", 1024), hit("b", 1024))
	wantScores(t, small(), docs, "*", hit("a", 1024), hit("b", 1024), hit("c", 1024), hit("d", 1024))
	wantScores(t, small(), docs, "*^99", hit("a", 99*1024), hit("b", 99*1024), hit("c", 99*1024), hit("d", 99*1024))
	wantScores(t, small(), docs, "* n:1^3", hit("a", 4096), hit("b", 1024), hit("c", 1024), hit("d", 1024))
	wantScores(t, small(), docs, "-n:2", hit("c", 0), hit("d", 0))
	wantScores(t, small(), docs, "+n:2^5 -n:1^7", hit("b", 5*1024))
	wantScores(t, small(), docs, "(+n:2^5 n:1^7)^2", hit("a", 2*12*1024), hit("b", 2*5*1024))
	wantScores(t, small(), docs, "x^7", hit("a", 7*(one*(2*2200000/(2300+2057))/1000)))
}

// Of several fields the best one counts, and no sum.
func TestMeaningScoresOfAllFields(t *testing.T) {
	s := schemaOf(textField("a", impl.Analyzer{}), textField("b", impl.Analyzer{}), textField("c", impl.Analyzer{Fold: true}), wordField("w"))
	docs := []impl.Doc{
		docWith("1", textsIn("a", "x y z"), textsIn("b", "x"), textsIn("c", "X X")),
		docWith("2", textsIn("a", "x"), textsIn("w", "x")),
		docWith("3", textsIn("b", "y x y"), textsIn("c", "y y y x")),
		docWith("4", textsIn("w", "x")),
		docWith("5", textsIn("a", "x x x x")),
	}
	m := senseOf(s, docs)
	for _, text := range []string{"x", "y", "X", "Y", `"x y"`, `"y x"`, "x*", "X*", `~"?"`, "xy~1", "z"} {
		q := queryOf(t, text)
		m.wantHits(t, q)
		best := map[string]int{}
		for _, field := range []string{"a", "b", "c"} {
			one := copyOf(q)
			one.Nodes[0].Field = field
			m.wantHits(t, one)
			for _, h := range m.hits(one) {
				best[h.Id] = max(best[h.Id], h.Score)
			}
		}
		list, code := impl.Meaning(s, docs, q)
		if code != impl.OK || len(list) != len(best) {
			t.Errorf("%s: %v, code %d, want %v", text, list, code, best)
		}
		for _, h := range list {
			if best[h.Id] != h.Score {
				t.Errorf("%s: %v, want %v", text, list, best)
			}
		}
	}
}

// What all documents have in the field counts in a score, those that do not match too.
func TestMeaningScoresHangOnAllDocs(t *testing.T) {
	docs := []impl.Doc{docWith("d", textsIn("t", "x y"))}
	score := func() int {
		list, code := impl.Meaning(small(), docs, queryOf(t, "x"))
		if code != impl.OK || len(list) == 0 || list[0].Id != "d" {
			t.Fatalf("%v, code %d", list, code)
		}
		wantSameMeaning(t, small(), docs, queryOf(t, "x"))
		return list[0].Score
	}
	ahead := score()
	for _, d := range []impl.Doc{docWith("none"), docWith("long", textsIn("t", "y y y y y y")), docWith("more", textsIn("t", "z z"))} {
		docs = append(docs, d)
		if now := score(); now <= ahead {
			t.Errorf("behind %s: %d, ahead %d", d.Id, now, ahead)
		} else {
			ahead = now
		}
	}
	docs = append(docs, docWith("too", textsIn("t", "q x q q q q q q")))
	if now := score(); now >= ahead {
		t.Errorf("%d, ahead %d", now, ahead)
	}
	docs = append(docs, docWith("word", textsIn("w", "x")))
	score()
}

// A choice is counted in each place of its own; a document that has several of
// them, once.
func TestMeaningScoresOfChoices(t *testing.T) {
	s := schemaOf(textField("t", impl.Analyzer{Synonyms: []impl.Synonym{{From: "a", To: "b"}, {From: "a", To: "c"}}}))
	docs := []impl.Doc{docWith("1", textsIn("t", "a")), docWith("2", textsIn("t", "b c")), docWith("3", textsIn("t", "c x")), docWith("4", textsIn("t", "x"))}
	// Terms: 3, 2, 2 and 1, so 8 in all; a, b or c in 3 of 4: 526. Of length 3 it is 1350, of 2 900.
	wantScores(t, s, docs, "a", hit("2", 526*(2*2200000/(2300+900))/1000), hit("3", 526*(2200000/(1300+900))/1000), hit("1", 526*(2200000/(1300+1350))/1000))
	// b alone in 2 of 4: 1024.
	wantScores(t, s, docs, "b", hit("2", 1024*1000/1000), hit("1", 1024*830/1000))
	// Both places have the same choices.
	wantScores(t, s, docs, `"a a"`, hit("2", 2*526*1000/1000))
	wantScores(t, s, docs, `"a x"`, hit("3", (526+1024)*1000/1000))
}

func TestMeaningScoreIsCut(t *testing.T) {
	docs := []impl.Doc{docWith("a", textsIn("t", "x")), docWith("b"), docWith("c", textsIn("t", "x y"))}
	for nest := range 8 {
		score := 1024
		b := allLeaf().boosted(99)
		for range nest {
			b = group(b).boosted(99)
		}
		for range nest + 1 {
			score = min(99*score, mostScore)
		}
		if (score == mostScore) != (nest >= 4) {
			t.Fatalf("%d nodes: %d", nest+1, score)
		}
		wantMeaning(t, small(), docs, b.query(), []impl.Hit{hit("a", score), hit("b", score), hit("c", score)}, impl.OK)
		wantSameMeaning(t, small(), docs, b.query())
	}
	// Just as much, and by little more.
	exact := group(group(group(group(group(allLeaf().boosted(50)).boosted(50)).boosted(25)).boosted(25)).boosted(25)).boosted(25)
	if 1024*50*50*25*25*25*25 != mostScore {
		t.Fatal("not as much")
	}
	for _, b := range []branch{exact, group(exact), group(exact, allLeaf()), group(exact).boosted(2), group(exact, allLeaf().with(mustNot))} {
		var want []impl.Hit
		if len(b.below) == 1 || b.below[1].Role != mustNot {
			want = []impl.Hit{hit("a", mostScore)}
		}
		wantMeaning(t, small(), docs[:1], b.query(), want, impl.OK)
		wantSameMeaning(t, small(), docs[:1], b.query())
	}
	for boost, want := range map[int]int{1: 1024 * 96 * 99 * 99 * 99, 10: 10 * 1024 * 96 * 99 * 99 * 99, 11: mostScore, 99: mostScore} {
		b := group(group(group(allLeaf().boosted(96)).boosted(99)).boosted(99)).boosted(99)
		wantMeaning(t, small(), docs[:1], group(b).boosted(boost).query(), []impl.Hit{hit("a", want)}, impl.OK)
		wantSameMeaning(t, small(), docs[:1], group(b).boosted(boost).query())
	}
	// A sum of scores that are cut is cut too; a sum below is not.
	great := group(group(group(group(allLeaf().boosted(99)).boosted(99)).boosted(99)).boosted(99)).boosted(99)
	for kids := 1; kids <= 10; kids++ {
		wantMeaning(t, small(), docs[1:2], group(slices.Repeat([]branch{great}, kids)...).boosted(99).query(), []impl.Hit{hit("b", mostScore)}, impl.OK)
		wantSameMeaning(t, small(), docs, group(slices.Repeat([]branch{great.with(must)}, kids)...).query())
	}
	// What is cut is equal, so that the ids tell the order.
	wantMeaning(t, small(), docs, group(great, termLeaf("x").boosted(50)).query(), []impl.Hit{hit("a", mostScore), hit("b", mostScore), hit("c", mostScore)}, impl.OK)
	below := 1024 * 9 * 99 * 99 * 99 // about a hundredth
	b := group(group(group(allLeaf().boosted(9)).boosted(99)).boosted(99)).boosted(99)
	if 63/4 < 12 || 12*below > mostScore {
		t.Fatal(below)
	}
	wantMeaning(t, small(), docs[:1], group(slices.Repeat([]branch{b}, 12)...).query(), []impl.Hit{hit("a", 12*below)}, impl.OK)
}

// The greatest score first, of equal ones the least Id, however they were handed in.
func TestMeaningOrder(t *testing.T) {
	var docs []impl.Doc
	for i, id := range strings.Fields("b a ab ! ~ A B aa 10 9 1 a!") {
		docs = append(docs, docWith(id, numbersIn("n", i%3)))
	}
	q := queryOf(t, "* n:1^2 n:2")
	want := []impl.Hit{
		hit("1", 3072), hit("a", 3072), hit("aa", 3072), hit("~", 3072),
		hit("10", 2048), hit("A", 2048), hit("a!", 2048), hit("ab", 2048),
		hit("!", 1024), hit("9", 1024), hit("B", 1024), hit("b", 1024),
	}
	wantSameMeaning(t, small(), docs, q)
	for from := range docs {
		turned := slices.Concat(docs[from:], docs[:from])
		wantMeaning(t, small(), turned, q, want, impl.OK)
		slices.Reverse(turned)
		wantMeaning(t, small(), turned, q, want, impl.OK)
	}
}

func TestMeaningOfMostDocs(t *testing.T) {
	docs := numbered(513)
	for i := range docs {
		docs[i].Values = []impl.Value{numbersIn("n", i%7), textsIn("t", strings.Repeat("x ", i%5)+"y"), textsIn("w", fmt.Sprintf("w%d", i%11))}
	}
	for _, n := range []int{511, 512} {
		m := senseOf(small(), docs[:n])
		for _, text := range []string{"x", "y", `"x x y"`, "w:w3", "n:5 x^3 -w:w4", "*", "z", "w*", "w:w1*", `~"y"`} {
			m.wantHits(t, queryOf(t, text))
		}
	}
	for _, text := range []string{"x", "*", "none:x"} {
		wantMeaning(t, small(), docs, queryOf(t, text), nil, impl.ErrMany)
	}
}

// Documents of as many bytes as may be, and a query of as many nodes.
func TestMeaningOfGreatArguments(t *testing.T) {
	var docs []impl.Doc
	for i := range 20 {
		var text strings.Builder
		for j := 0; text.Len() < 3900; j++ {
			fmt.Fprintf(&text, "w%d ", (i*j+j*j)%500)
		}
		docs = append(docs, docWith(fmt.Sprintf("d%d", i), textsIn("t", text.String())))
	}
	var kids []branch
	for i := range 63 {
		n := impl.Node{Kind: 1 + i%5, Text: fmt.Sprintf("w%d", i)}
		switch n.Kind {
		case impl.QPhrase:
			n.Text, n.Slop = fmt.Sprintf("w%d w%d", i, i+3), i%21
		case impl.QFuzzy:
			n.Slop = 1 + i%2
		}
		kids = append(kids, leaf(n).with(i%2*(i%3)%2))
	}
	wantSameMeaning(t, small(), docs, group(kids...).query())
	wantMeaning(t, small(), docs, group(append(kids, allLeaf())...).query(), nil, impl.ErrBad)
}
