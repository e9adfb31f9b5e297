package tests

import (
	"math/rand"
	"slices"
	"strings"
	"testing"

	"loop.example/g00018/impl"
)

func TestMatchesOfEachKind(t *testing.T) {
	d := sceneDocs()[1] // dogs running, running cats; cat cab; -5 7 7; dog cat dog cat; Red
	for text, want := range map[string]bool{
		"cat": true, "pet": false, "bird": false, "plain:dog": true, "plain:pet": false, "tag:Red": true, "tag:red": false, "n:7": true, `n:\-5`: true, "n:5": false, "n:x": false,
		`"dog run"`: true, `"run dog"`: false, `"dog cat"~2`: true, `body:"dog cats"~1`: false, `body:"dog cats"~2`: true, `""`: false, `tag:"Red"`: true, `n:"7"~2`: true, `n:"8"`: false,
		"ru*": true, "rx*": false, "tag:R*": true, "tag:r*": false, "n:7*": false,
		`~"?at"`: true, `~"?ab?"`: false, `tag:~"*e*"`: true, `tag:~"*x*"`: false, `n:~"*"`: false,
		"cot~1": true, "cqq~1": false, "cqq~2": true, "tag:red~1": true, "tag:rod~1": false, "n:7~2": false,
		"n:[7 *]": true, "n:[* -5]": true, "n:[-4 6]": false, "n:[8 *]": false, "tag:[* *]": false, "body:[* *]": false, "year:[* *]": false,
		"*": true, "-*": false, "*^99": true,
		"(cat bird)": true, "(cat bird)@2": false, "+cat -bird": true, "+cat -dog": false, "+cat +bird": false, "-bird": true, "-cat": false, "(+cat)@1": false, "(-bird)@1": false, "(cat)@1": true, "+(-(-cat))": true, "((bird) (cat (cow)))": true,
	} {
		if own, code := matchesOf(scene(), d, queryOf(t, text)); own != want || code != impl.OK {
			t.Errorf("the second telling of %s: %v, code %d, want %v", text, own, code, want)
		}
		wantMatches(t, scene(), d, queryOf(t, text), want, impl.OK)
	}
}

// A document without values is found by what asks for nothing that it should have.
func TestMatchesOfAnEmptyDoc(t *testing.T) {
	for text, want := range map[string]bool{"*": true, "-cat": true, "cat": false, "* cat": true, "+* +cat": false, "-*": false, `~"*"`: false, "n:[* *]": false, "(-cat -dog)": true, "(+* cat)@1": false} {
		wantMatches(t, scene(), docWith("z"), queryOf(t, text), want, impl.OK)
		wantSameMatches(t, scene(), docWith("z"), queryOf(t, text))
	}
}

// A node may match with a score of 0: whether it does is not told by the score.
func TestMatchesWhateverTheScore(t *testing.T) {
	texts := strings.Repeat("x ", 1900) + "cat"
	d := docWith("a", textsIn("t", texts))
	wantMatches(t, small(), d, queryOf(t, "cat"), true, impl.OK)
	wantMatches(t, small(), d, queryOf(t, "-cat"), false, impl.OK)
	// What matches since nothing asks against it has no score at all.
	hits, code := impl.Meaning(small(), []impl.Doc{d}, queryOf(t, "-dog"))
	if code != impl.OK || len(hits) != 1 || hits[0].Score != 0 {
		t.Fatalf("%v, code %d", hits, code)
	}
	wantMatches(t, small(), d, queryOf(t, "-dog"), true, impl.OK)
}

func TestMatchesOfAllSmallBools(t *testing.T) {
	for _, d := range subsets(1, 2) {
		for roles := range 9 {
			for least := range 4 {
				kids := []branch{numberLeaf(1).with(roles % 3), numberLeaf(2).with(roles / 3)}
				wantSameMatches(t, small(), d, group(kids...).atLeast(least).query())
				wantSameMatches(t, small(), d, group(kids[0]).atLeast(least).query())
			}
		}
	}
}

// P10 of Matches: it goes by what Meaning tells of the document alone, and so of
// every list that it stands in.
func TestMatchesIsMeaning(t *testing.T) {
	source := rand.New(rand.NewSource(118))
	found, missed := 0, 0
	for range 120 {
		docs := randomSceneDocs(source)
		for range 6 {
			q := randomSceneBranch(source, 4).query()
			hits, _ := impl.Meaning(scene(), docs, q)
			for _, d := range docs {
				among := slices.ContainsFunc(hits, func(h impl.Hit) bool { return h.Id == d.Id })
				wantMatches(t, scene(), d, q, among, impl.OK)
				if alone := wantSameMatches(t, scene(), d, q); alone {
					found++
				} else {
					missed++
				}
			}
		}
	}
	if found < 300 || missed < 300 {
		t.Errorf("%d are found, %d are not", found, missed)
	}
}

// In brackets, with other blanks, and with its kids in another order.
func TestMatchesOfTheSameQueryWritten(t *testing.T) {
	source := rand.New(rand.NewSource(119))
	for range 200 {
		d := randomSceneDoc(source, "d")
		b := randomSceneBranch(source, 4)
		want, _ := impl.Matches(scene(), d, b.query())
		text, _ := impl.PrintQuery(b.query())
		for _, other := range []string{text, "(" + text + ")", "  ((" + text + " )  )", "+" + text, "(" + text + ")@1"} {
			wantMatches(t, scene(), d, queryOf(t, other), want, impl.OK)
		}
		wantMatches(t, scene(), d, reordered(source, b).query(), want, impl.OK)
	}
}

// As Percolate tells it.
func TestMatchesIsPercolation(t *testing.T) {
	source := rand.New(rand.NewSource(120))
	for range 60 {
		d, list := randomSceneDoc(source, "d"), randomStored(source, 8)
		ids, code := impl.Percolate(scene(), list, d)
		if code != impl.OK {
			t.Fatalf("code %d", code)
		}
		for _, one := range list {
			wantMatches(t, scene(), d, one.Query, slices.Contains(ids, one.Id), impl.OK)
		}
	}
}

func TestMatchesFaultsInOrder(t *testing.T) {
	wantFaultsInOrder(t, []extrasFault{
		{impl.ErrBad, wrongSchema},
		{impl.ErrBad, wrongFirstDoc},
		{impl.ErrBad, func(a *extrasAsk) { a.q.Nodes[2].Boost = 0 }},
		{impl.ErrBad, func(a *extrasAsk) { a.q.Nodes[0].Role = 2 }},
		{impl.ErrField, func(a *extrasAsk) { a.q.Nodes[3].Field = "none" }},
		{impl.ErrField, func(a *extrasAsk) { a.q.Nodes[1].Field = "bod" }},
	}, func(a *extrasAsk, code int) {
		t.Helper()
		if own := meaningCode(a.s, a.docs[:1], a.q); own != code {
			t.Fatalf("the second telling: code %d, want %d", own, code)
		}
		wantSameMatches(t, a.s, a.docs[0], a.q)
	})
}

func TestMatchesOfWrongArguments(t *testing.T) {
	d := sceneDocs()[0]
	for _, text := range []string{"*", "cat", "none:x", "n:[1 2]"} {
		for _, wrong := range wrongDocs() {
			wantMatches(t, scene(), wrong, queryOf(t, text), false, impl.ErrBad)
		}
		for _, s := range []impl.Schema{{}, schemaOf(wordField("")), schemaOf(wordField("b"), wordField("a")), schemaOf(impl.FieldDef{Name: "a"}), manyFields(17)} {
			wantMatches(t, s, docWith("d"), queryOf(t, text), false, impl.ErrBad)
		}
	}
	for _, b := range wrongBranches() {
		wantMatches(t, scene(), d, b.query(), false, impl.ErrBad)
	}
	for _, text := range []string{"none:x", `none:"x"`, "none:x*", `none:~"x"`, "none:x~1", "none:[1 2]", "cat -none:x", "-(cat (+(none:x)))", "bod:x", "tags:x"} {
		wantMatches(t, scene(), d, queryOf(t, text), false, impl.ErrField)
		wantMatches(t, scene(), docWith("z"), queryOf(t, text), false, impl.ErrField)
	}
	valid := 0
	for _, q := range sampleQueries() {
		wantSameMatches(t, scene(), d, q)
		valid += btoi(rightQuery(q))
	}
	if valid == 0 {
		t.Error("no query is valid")
	}
}
