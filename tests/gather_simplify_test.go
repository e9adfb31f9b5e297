package tests

import (
	"fmt"
	"math/rand"
	"slices"
	"strings"
	"testing"

	"loop.example/g00018/impl"
)

func TestSimplifyInWritten(t *testing.T) {
	for text, want := range map[string]string{
		// Without a QBool, of each kind.
		"a": "a", "f:a^7": "f:a^7", `"a b"~3`: `"a b"~3`, `""`: `""`, "a*^99": "a*^99", `~"a?*"`: `~"a?*"`, "f:a~2": "f:a~2", "f:[-3 *]": "f:[-3 *]", "*": "*", `a\ b`: `a\ b`,
		// Of one kid in each Role; its own Role is what stays.
		"(a)": "a", "+a": "a", "(+a)": "a", "-a": "(-a)", "(-a)": "(-a)", "x +(y)": "(x +y)", "x -(y)": "(x -y)", "x (y)": "(x y)", "x +(+y)": "(x +y)", "x -(+y)": "(x -y)", "x (+y)": "(x y)", "x +(-y)": "(x +(-y))", "x -(-y)": "(x -(-y))", "-(-y)": "(-(-y))",
		// What a QBool asks of its one kid.
		"(a)@1": "a", "(a)@2": "(a)@2", "(a)@64": "(a)@64", "(+a)@1": "(+a)@1", "(+a)@2": "(+a)@2", "(-a)@1": "(-a)@1", "(-a)@2": "(-a)@2", "x -(y)@1": "(x -y)", "x +(y)@2": "(x +(y)@2)",
		// Several deep.
		"((a))": "a", "(((((((a)))))))": "a", "+(+(+a))": "a", "((-a))": "(-a)", "((a)@2)": "(a)@2", "((a))@2": "(a)@2", "(((a)@2))": "(a)@2", "(+((+a)@1))": "(+a)@1", "((+(a))@1)": "(+a)@1", "(-((a)))": "(-a)", "(-(-((a))))": "(-(-a))", "((a b))": "(a b)", "((a b)@2)": "(a b)@2", "((((a b))))@1": "(a b)", "((((a b)@3)))@1^3": "(a b)@3^3",
		// Several kids of which each is such a one.
		"(a) (b)": "(a b)", "((a) (b))": "(a b)", "(a) +((b)) -(((c)))": "(a +b -c)", "(+a) (-b) (c)@2 (d e)": "(a (-b) (c)@2 (d e))", "((a) (+(b c)) ((d)))@2": "(a (b c) d)@2", "((a (b)) ((c) d))": "((a b) (c d))", "-(a) -((b) (+c))": "(-a -(b c))",
		// Boosts multiply.
		"(a^2)^3": "a^6", "((a^2)^3)^4": "a^24", "(a)^5": "a^5", "(a^5)": "a^5", "+a^5": "a^5", "x -(y^4)^2": "(x -y^8)", "((a b)^3)^4": "(a b)^12", "((a)^2 (b^3)^3)^9": "(a^2 b^9)^9", "(-a^3)^2": "(-a^3)^2",
		"(a^9)^11": "a^99", "(a^99)": "a^99", "(a)^99": "a^99", "(a^33)^3": "a^99", "(a^10)^10": "(a^10)^10", "(a^50)^2": "(a^50)^2", "(a^2)^50": "(a^2)^50", "(a^99)^2": "(a^99)^2", "(a^99)^99": "(a^99)^99", "((a^99)^99)": "(a^99)^99", "((a^99))^99": "(a^99)^99",
	} {
		wantSimpleText(t, text, want)
	}
}

// Where the first product is allowed and the next is not, the upper nodes are one.
func TestSimplifyFromTheTop(t *testing.T) {
	for _, row := range []struct {
		boosts, want []int // from the top down, the last one that of the term
	}{
		{[]int{2, 40, 2}, []int{80, 2}}, {[]int{40, 2, 2}, []int{80, 2}}, {[]int{2, 2, 40}, []int{4, 40}}, {[]int{50, 2, 40}, []int{50, 80}}, {[]int{50, 2, 2}, []int{50, 4}}, {[]int{9, 11, 1}, []int{99}}, {[]int{9, 11, 2}, []int{99, 2}}, {[]int{2, 9, 11}, []int{18, 11}},
		{[]int{99, 1, 1, 1}, []int{99}}, {[]int{1, 1, 1, 99}, []int{99}}, {[]int{99, 99, 1, 1}, []int{99, 99}}, {[]int{1, 99, 1, 99}, []int{99, 99}}, {[]int{10, 10, 10, 10}, []int{10, 10, 10, 10}}, {[]int{9, 9, 9, 9}, []int{81, 81}}, {[]int{2, 2, 2, 2, 2, 2, 2}, []int{64, 2}}, {[]int{2, 2, 2, 2, 2, 2, 2, 2}, []int{64, 4}}, {[]int{99, 9, 11, 9, 11, 99}, []int{99, 99, 99, 99}}, {[]int{3, 3, 3, 3, 3, 3, 3, 3}, []int{81, 81}}, {[]int{50, 1, 2, 3, 25, 4}, []int{50, 6, 25, 4}}, {[]int{50, 1, 2, 3, 16, 1}, []int{50, 96}},
	} {
		last := len(row.boosts) - 1
		want := len(row.want) - 1
		wantSimpleBranch(t, rowOfGroups(termLeaf("a").boosted(row.boosts[last]), row.boosts[:last]...), rowOfGroups(termLeaf("a").boosted(row.want[want]), row.want[:want]...))
		// Likewise as a kid among others, which keeps its role.
		for _, role := range []int{should, must, mustNot} {
			if last+2 > 8 {
				break
			}
			row1 := rowOfGroups(termLeaf("a").boosted(row.boosts[last]), row.boosts[:last]...).with(role)
			row2 := rowOfGroups(termLeaf("a").boosted(row.want[want]), row.want[:want]...).with(role)
			wantSimpleBranch(t, group(allLeaf(), row1, termLeaf("z")), group(allLeaf(), row2, termLeaf("z")))
		}
	}
}

// All rows of three with these boosts.
func TestSimplifyOfAllRows(t *testing.T) {
	boosts := []int{1, 2, 3, 7, 9, 10, 11, 33, 49, 50, 98, 99}
	for _, a := range boosts {
		for _, b := range boosts {
			for _, c := range boosts {
				wantSameSimple(t, rowOfGroups(termLeaf("x").boosted(c), a, b).query())
				wantSameSimple(t, rowOfGroups(termLeaf("x").boosted(c).with(must), a, b).query())
				wantSameSimple(t, rowOfGroups(group(termLeaf("x"), termLeaf("y")).boosted(c), a, b).query())
			}
		}
	}
}

// All roles and Mins of a node in another in a third.
func TestSimplifyOfAllRolesAndMins(t *testing.T) {
	for inner := range 3 {
		for outer := range 3 {
			for least := range 4 {
				for most := range 4 {
					b := group(group(termLeaf("x").with(inner)).with(outer).atLeast(least)).atLeast(most)
					wantSameSimple(t, b.query())
					wantSameSimple(t, group(allLeaf(), b.with(mustNot)).query())
				}
			}
		}
	}
}

func TestSimplifyLimits(t *testing.T) {
	leaf := termLeaf("a")
	wantSimpleBranch(t, nested(7, leaf), leaf)
	wantSimple(t, nested(8, leaf).query(), impl.Query{}, impl.ErrBad)
	// 64 nodes, of which all but the root and one are needless or leaves.
	var pairs, leaves []branch
	for i := range 31 {
		pairs = append(pairs, group(termLeaf(fmt.Sprint(i))).with(i%3))
		leaves = append(leaves, termLeaf(fmt.Sprint(i)).with(i%3))
	}
	full := group(append(pairs, allLeaf())...)
	if q := full.query(); len(q.Nodes) != 64 {
		t.Fatalf("%d nodes", len(q.Nodes))
	}
	wantSimpleBranch(t, full, group(append(leaves, allLeaf())...))
	wantSimple(t, group(append(pairs, allLeaf(), allLeaf())...).query(), impl.Query{}, impl.ErrBad)
	wantSimpleBranch(t, group(full.below[:10]...), group(leaves[:10]...))
	// A row of seven in each of seven kids.
	var rows, ends []branch
	for i := range 7 {
		rows = append(rows, nested(6, termLeaf(fmt.Sprint(i)).boosted(i+1)))
		ends = append(ends, termLeaf(fmt.Sprint(i)).boosted(i+1))
	}
	wantSimpleBranch(t, group(rows...), group(ends...))
}

// Texts, fields and all that a kind names come through.
func TestSimplifyKeepsTheRest(t *testing.T) {
	for _, b := range oneNode() {
		if !rightQuery(b.query()) {
			wantSameSimple(t, b.query())
			continue
		}
		want := b
		want.Node.Role = should
		for _, role := range []int{should, must} {
			wantSameSimple(t, group(b.with(role)).query())
			wantSameSimple(t, group(group(b.with(role)), group(b)).query())
		}
		if len(b.below) == 0 {
			wantSimpleBranch(t, group(b), want)
			wantSimpleBranch(t, nested(3, b), want)
		}
	}
}

func TestSimplifyOfRandomQueries(t *testing.T) {
	source := rand.New(rand.NewSource(122))
	fewer := 0
	for range 3000 {
		q := randomRow(source, 1+source.Intn(8)).query()
		if !rightQuery(q) {
			continue
		}
		simple := wantSameSimple(t, q)
		fewer += btoi(len(simple.Nodes) < len(q.Nodes))
		if !impl.QueryOK(simple) {
			t.Errorf("%s is not valid", textOf(simple))
		}
		// What is simple stays, and nothing is left to be done.
		wantSimple(t, simple, simple, impl.OK)
		for i := range simple.Nodes {
			if needless(simple, i) {
				t.Errorf("%s: node %d of %s is needless", textOf(q), i, textOf(simple))
			}
		}
	}
	if fewer < 1000 {
		t.Errorf("only %d become simpler", fewer)
	}
	for range 500 {
		wantSameSimple(t, group(randomBranch(source, 7, 40).with(source.Intn(3))).query())
	}
}

func TestSimplifyOfWrongQueries(t *testing.T) {
	for _, b := range wrongBranches() {
		wantSimple(t, b.query(), impl.Query{}, impl.ErrBad)
		wantSimple(t, group(b, allLeaf().with(9)).query(), impl.Query{}, impl.ErrBad)
	}
	valid := 0
	for _, q := range sampleQueries() {
		wantSameSimple(t, q)
		valid += btoi(rightQuery(q))
	}
	if valid == 0 {
		t.Error("no query is valid")
	}
	// What would be valid once it is simple counts for nothing.
	wantSimple(t, nested(8, allLeaf()).query(), impl.Query{}, impl.ErrBad)
	wantSimple(t, group(group(allLeaf()).boosted(100)).query(), impl.Query{}, impl.ErrBad)
	wantSimple(t, group(allLeaf()).with(must).query(), impl.Query{}, impl.ErrBad)
	wantSimple(t, group(allLeaf()).boosted(0).query(), impl.Query{}, impl.ErrBad)
	wantSimple(t, group(allLeaf()).atLeast(-1).query(), impl.Query{}, impl.ErrBad)
	wantSimple(t, group(allLeaf()).atLeast(65).query(), impl.Query{}, impl.ErrBad)
	round := impl.Query{Nodes: []impl.Node{{Kind: impl.QBool, Boost: 1, Kids: []int{0}}}}
	wantSimple(t, round, impl.Query{}, impl.ErrBad)
	wantSimple(t, impl.Query{Nodes: make([]impl.Node, 1<<20)}, impl.Query{}, impl.ErrBad)
}

// P27: neither the documents that match nor their scores change.
func TestSimplifyChangesNoMeaning(t *testing.T) {
	source := rand.New(rand.NewSource(123))
	fewer, matched := 0, 0
	for range 800 {
		docs := randomSceneDocs(source)
		b := randomSceneBranch(source, 4)
		for range source.Intn(3) {
			b = group(b.with([]int{should, must, mustNot}[source.Intn(3)])).boosted(1 + source.Intn(2)*source.Intn(99)).atLeast(source.Intn(3))
		}
		q := b.query()
		simple, code := impl.Simplify(q)
		if code != impl.OK {
			t.Fatalf("%s: code %d", textOf(q), code)
		}
		want, _ := impl.Meaning(scene(), docs, q)
		wantMeaning(t, scene(), docs, simple, want, impl.OK)
		for _, d := range docs {
			found, _ := impl.Matches(scene(), d, q)
			wantMatches(t, scene(), d, simple, found, impl.OK)
		}
		fewer += btoi(len(simple.Nodes) < len(q.Nodes))
		matched += btoi(len(want) > 0)
	}
	if fewer < 100 || matched < 100 {
		t.Errorf("only %d become simpler, %d match", fewer, matched)
	}
}

// Scores that are cut on their way up are the same as those that are cut at once.
func TestSimplifyOfScoresThatAreCut(t *testing.T) {
	source := rand.New(rand.NewSource(124))
	docs := []impl.Doc{docWith("a"), docWith("b", numbersIn("n", 1))}
	cut := 0
	for range 300 {
		var boosts []int
		for range 7 {
			boosts = append(boosts, []int{1, 2, 9, 11, 33, 49, 50, 99}[source.Intn(8)])
		}
		q := rowOfGroups(allLeaf().boosted(99), boosts...).query()
		simple := wantSameSimple(t, q)
		want, _ := impl.Meaning(small(), docs, q)
		wantMeaning(t, small(), docs, simple, want, impl.OK)
		cut += btoi(want[0].Score == mostScore)
	}
	if cut < 50 || cut > 280 {
		t.Errorf("%d of 300 scores are cut", cut)
	}
}

// What a QBool of one kid asks, on documents that have it and that do not.
func TestSimplifyOfBoolsOnDocs(t *testing.T) {
	docs := subsets(1, 2)
	m := senseOf(small(), docs)
	for role := range 3 {
		for above := range 3 {
			for least := range 3 {
				for most := range 3 {
					b := group(group(numberLeaf(1).with(role)).with(above).atLeast(least), numberLeaf(2)).atLeast(most)
					q := b.query()
					simple := wantSameSimple(t, q)
					wantMeaning(t, small(), docs, simple, m.hits(q), impl.OK)
					alone := group(numberLeaf(1).with(role)).atLeast(least).query()
					wantMeaning(t, small(), docs, wantSameSimple(t, alone), m.hits(alone), impl.OK)
				}
			}
		}
	}
}

// A simple query printed, parsed and searched for is the same.
func TestSimplifiedQueriesComeBack(t *testing.T) {
	source := rand.New(rand.NewSource(125))
	for range 300 {
		q := randomRow(source, 7).query()
		if !rightQuery(q) {
			continue
		}
		simple, _ := impl.Simplify(q)
		text, code := impl.PrintQuery(simple)
		if code != impl.OK || strings.Contains(text, "((a))") {
			t.Errorf("%s, code %d", text, code)
		}
		wantParse(t, text, simple, impl.OK)
		if slices.ContainsFunc(simple.Nodes[1:], func(n impl.Node) bool { return n.Boost > 99 }) {
			t.Errorf("%s", text)
		}
	}
}
