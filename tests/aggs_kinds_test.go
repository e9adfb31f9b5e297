package tests

import (
	"fmt"
	"math/rand"
	"slices"
	"testing"

	"loop.example/g00018/impl"
)

func TestAggTerms(t *testing.T) {
	all, cat := queryOf(t, "*"), queryOf(t, "cat")
	red, blue, green := impl.Bucket{Parent: -1, Key: "red", Count: 3}, impl.Bucket{Parent: -1, Key: "blue", Count: 2}, impl.Bucket{Parent: -1, Key: "green", Count: 1}
	told := []impl.Bucket{red, blue, green}
	for size := 1; size < 6; size++ {
		wantLaid(t, small(), fair(), all, []impl.Agg{perTerm("w", size)}, told[:min(size, 3)]...)
	}
	one := func(key string, count int) impl.Bucket { return impl.Bucket{Parent: -1, Key: key, Count: count} }
	wantLaid(t, small(), fair(), cat, []impl.Agg{perTerm("w", 9)}, one("red", 2), one("blue", 1), one("green", 1))
	wantLaid(t, small(), fair(), cat, []impl.Agg{perTerm("w", 2)}, one("red", 2), one("blue", 1))
	wantLaid(t, small(), fair(), queryOf(t, "n:[0 *] n:[* *]"), []impl.Agg{perTerm("w", 1)}, one("blue", 2))
	wantLaid(t, small(), fair()[3:4], all, []impl.Agg{perTerm("w", 9)})
}

// Of equal Counts the least text is told first, and texts are held byte by byte.
func TestAggTermsOfEqualCounts(t *testing.T) {
	texts := []string{"a", "A", "aa", "ab", "b", "B", "\u00e9", "z", "10", "9", "a b", "~"}
	var docs []impl.Doc
	for i, text := range texts {
		docs = append(docs, docWith(fmt.Sprint("one", i), textsIn("w", text)), docWith(fmt.Sprint("two", i), textsIn("w", text, text)))
	}
	docs = append(docs, docWith("more", textsIn("w", "ab", "z", "ab", "zz", "zy")))
	order := []string{"ab", "z", "10", "9", "A", "B", "a", "a b", "aa", "b", "~", "\u00e9", "zy", "zz"}
	counts := []int{3, 3, 2, 2, 2, 2, 2, 2, 2, 2, 2, 2, 1, 1}
	for size := 1; size < 16; size++ {
		var want []impl.Bucket
		for i := range min(size, len(order)) {
			want = append(want, impl.Bucket{Parent: -1, Key: order[i], Count: counts[i]})
		}
		wantLaid(t, small(), docs, queryOf(t, "*"), []impl.Agg{perTerm("w", size)}, want...)
	}
}

func TestAggSteps(t *testing.T) {
	all := queryOf(t, "*")
	one := func(from, count int) impl.Bucket { return impl.Bucket{Parent: -1, From: from, Count: count} }
	for size, want := range map[int][]impl.Bucket{
		1: {one(-6, 1), one(-1, 1), one(0, 1), one(4, 1), one(5, 2), one(9, 1)},
		2: {one(-6, 1), one(-2, 1), one(0, 1), one(4, 3), one(8, 1)},
		3: {one(-6, 1), one(-3, 1), one(0, 1), one(3, 3), one(9, 1)},
		4: {one(-8, 1), one(-4, 1), one(0, 1), one(4, 3), one(8, 1)},
		5: {one(-10, 1), one(-5, 1), one(0, 1), one(5, 2)},
		6: {one(-6, 1), one(0, 3), one(6, 1)}, 7: {one(-7, 1), one(0, 3), one(7, 1)},
		9: {one(-9, 1), one(0, 3), one(9, 1)}, 10: {one(-10, 1), one(0, 3)}, 1000000000: {one(-1000000000, 1), one(0, 3)},
	} {
		wantLaid(t, small(), fair(), all, []impl.Agg{perStep("n", size)}, want...)
	}
	wantLaid(t, small(), fair(), queryOf(t, "w:blue"), []impl.Agg{perStep("n", 6)}, one(-6, 1), one(0, 1))
	wantLaid(t, small(), fair(), queryOf(t, "-n:[* *]"), []impl.Agg{perStep("n", 6)})
}

// Every number around nought, with every small step: at a multiple and beside it.
func TestAggStepOfOneNumber(t *testing.T) {
	for n := -25; n <= 25; n++ {
		docs := []impl.Doc{docWith("a", numbersIn("n", n))}
		for size := 1; size < 28; size++ {
			from := 0
			for ; from > n; from -= size {
			}
			for ; from+size <= n; from += size {
			}
			wantLaid(t, small(), docs, queryOf(t, "*"), []impl.Agg{perStep("n", size)}, impl.Bucket{Parent: -1, From: from, Count: 1})
		}
	}
}

func TestAggRanges(t *testing.T) {
	for _, c := range []struct{ bounds, counts []int }{
		{[]int{-6, -1, 0, 5}, []int{1, 1, 1}}, {[]int{-5, 5, 10}, []int{2, 2}}, {[]int{10, 20}, []int{0}}, {[]int{-30, -20, -10}, []int{0, 0}},
		{[]int{5, 6}, []int{2}}, {[]int{4, 6}, []int{3}}, {[]int{6, 9}, []int{0}}, {[]int{6, 10}, []int{1}}, {[]int{-100, 100}, []int{4}},
		{[]int{-7, -6, -5, -1, 0, 1, 9, 10}, []int{0, 1, 0, 1, 1, 3, 1}}, {[]int{1, 2, 3, 4}, []int{0, 0, 0}}, {[]int{-6, -5, 10}, []int{1, 4}},
	} {
		var want []impl.Bucket
		for i, count := range c.counts {
			want = append(want, impl.Bucket{Parent: -1, From: c.bounds[i], Count: count})
		}
		wantLaid(t, small(), fair(), queryOf(t, "*"), []impl.Agg{perRange("n", c.bounds...)}, want...)
	}
	wantLaid(t, small(), fair(), queryOf(t, "w:blue"), []impl.Agg{perRange("n", -1, 0, 5, 6)}, impl.Bucket{Parent: -1, From: -1, Count: 1}, impl.Bucket{Parent: -1, From: 0, Count: 1}, impl.Bucket{Parent: -1, From: 5})
}

// A number at each bound, one below it and one above it.
func TestAggRangeAtBounds(t *testing.T) {
	bounds := []int{-9, -4, -3, 0, 2, 7}
	for n := -12; n <= 12; n++ {
		docs := []impl.Doc{docWith("a", numbersIn("n", n, n)), docWith("b")}
		var want []impl.Bucket
		for i, from := range bounds[:5] {
			want = append(want, impl.Bucket{Parent: -1, From: from, Count: btoi(from <= n && n < bounds[i+1])})
		}
		wantLaid(t, small(), docs, queryOf(t, "*"), []impl.Agg{perRange("n", bounds...)}, want...)
	}
}

func TestAggFilters(t *testing.T) {
	for _, c := range []struct {
		q, filter string
		count     int
	}{
		{"*", "*", 6}, {"*", "w:red", 3}, {"*", "cat", 4}, {"w:red", "cat", 2}, {"cat", "w:red", 2}, {"w:red", "w:blue", 1}, {"w:green", "w:red", 0}, {"*", "w:none", 0},
		{"w:none", "*", 0}, {"*", "-cat", 2}, {"n:[* *]", "-cat", 1}, {"*", "(cat dog w:red)@2", 2}, {"*", `"cat dog"^9`, 1}, {"*", "n:[-1 0] w:gr*", 3}, {"*", "n:5", 2}, {"*", "cet~1", 4}, {"*", `t:~"?o*"`, 2},
	} {
		wantLaid(t, small(), fair(), queryOf(t, c.q), []impl.Agg{filtered(queryOf(t, c.filter))}, impl.Bucket{Parent: -1, Count: c.count})
	}
}

func TestAggMeasures(t *testing.T) {
	kinds := []impl.Agg{measured(impl.ASum, "n"), measured(impl.AMin, "n"), measured(impl.AMax, "n"), measured(impl.ADistinct, "n"), measured(impl.ADistinct, "w"), part("n", 50)}
	for text, want := range map[string][6][2]int{
		"*":         {{8, 15}, {8, -6}, {8, 9}, {4, 6}, {5, 3}, {8, 0}},
		"w:red":     {{4, -3}, {4, -6}, {4, 5}, {2, 3}, {3, 2}, {4, -1}},
		"w:green":   {{2, 14}, {2, 5}, {2, 9}, {1, 2}, {1, 1}, {2, 5}},
		"w:blue":    {{5, -4}, {5, -6}, {5, 4}, {2, 4}, {2, 2}, {5, -1}},
		"n:[-6 -6]": {{3, -8}, {3, -6}, {3, -1}, {1, 2}, {1, 2}, {3, -1}},
		"n:5 -n:9":  {{1, 5}, {1, 5}, {1, 5}, {1, 1}, {1, 1}, {1, 5}},
		"-n:[* *]":  {{0, 0}, {0, 0}, {0, 0}, {0, 0}, {1, 1}, {0, 0}},
		"w:none":    {{0, 0}, {0, 0}, {0, 0}, {0, 0}, {0, 0}, {0, 0}},
	} {
		q := queryOf(t, text)
		var buckets []impl.Bucket
		for i, a := range kinds {
			b := impl.Bucket{Parent: -1, Count: want[i][0], Value: want[i][1]}
			wantLaid(t, small(), fair(), q, []impl.Agg{a}, b)
			b.Agg = i
			buckets = append(buckets, b)
		}
		wantLaid(t, small(), fair(), q, kinds, buckets...)
	}
}

// All parts of every count of numbers up to a few more than a hundred.
func TestAggParts(t *testing.T) {
	for count := 1; count < 120; count++ {
		var docs []impl.Doc
		for i := range count {
			if i%16 == 0 {
				docs = append(docs, docWith(fmt.Sprint("d", i), impl.Value{Field: "n"}))
			}
			// In no order, and each one another.
			list := &docs[len(docs)-1].Values[0].Numbers
			*list = append(*list, 10*((i*53)%count)-300)
		}
		if count%53 == 0 {
			continue
		}
		for size := 0; size <= 100; size += 1 + count%3 {
			buckets := mustAggregate(t, small(), docs, queryOf(t, "*"), part("n", size))
			place := 0
			for (place+1)*100 <= size*(count-1) {
				place++
			}
			if !slices.Equal(buckets, []impl.Bucket{{Parent: -1, Count: count, Value: 10*place - 300}}) {
				t.Errorf("part %d of %d: %v, want %d", size, count, buckets, 10*place-300)
			}
		}
	}
}

// The same number or text told twice, in one document and in two.
func TestAggOfWhatIsToldTwice(t *testing.T) {
	docs := []impl.Doc{docWith("a", numbersIn("n", 3, 3, 4, 3), textsIn("w", "x", "x", "y", "x")), docWith("b", numbersIn("n", 4, 3, 4), textsIn("w", "y", "x", "y")), docWith("c", numbersIn("n", 7, 7, 7, 7), textsIn("w", "z", "z"))}
	one := func(agg int, key string, from, count, value int) impl.Bucket {
		return impl.Bucket{Agg: agg, Parent: -1, Key: key, From: from, Count: count, Value: value}
	}
	list := []impl.Agg{perTerm("w", 9), perStep("n", 1), perStep("n", 2), perRange("n", 0, 4, 5, 8), measured(impl.ASum, "n"), measured(impl.ADistinct, "n"), measured(impl.ADistinct, "w"), part("n", 50), part("n", 60)}
	wantLaid(t, small(), docs, queryOf(t, "*"), list,
		one(0, "x", 0, 2, 0), one(0, "y", 0, 2, 0), one(0, "z", 0, 1, 0),
		one(1, "", 3, 2, 0), one(1, "", 4, 2, 0), one(1, "", 7, 1, 0), one(2, "", 2, 2, 0), one(2, "", 4, 2, 0), one(2, "", 6, 1, 0),
		one(3, "", 0, 2, 0), one(3, "", 4, 2, 0), one(3, "", 5, 1, 0),
		one(4, "", 0, 11, 52), one(5, "", 0, 3, 3), one(6, "", 0, 3, 3), one(7, "", 0, 11, 4), one(8, "", 0, 11, 4),
	)
}

// All kinds together on all kinds of queries.
func TestAggsOfEveryQuery(t *testing.T) {
	for _, text := range kindTexts() {
		q := queryOf(t, text)
		list := []impl.Agg{perTerm("tag", 3), perStep("n", 7), perRange("year", -2000, 0, 1950, 2001), filtered(queryOf(t, "cat")), measured(impl.ASum, "n"), measured(impl.AMin, "n"), measured(impl.AMax, "n"), measured(impl.ADistinct, "tag"), part("n", 30)}
		wantSameBuckets(t, scene(), sceneDocs(), q, list)
		wantSameBuckets(t, scene(), sceneDocs(), queryOf(t, "*"), []impl.Agg{filtered(q), under(0, perTerm("tag", 9)), under(0, measured(impl.AMax, "n"))})
		wantSameBuckets(t, scene(), sceneDocs(), queryOf(t, "cat dog"), []impl.Agg{perTerm("tag", 9), under(0, filtered(q)), under(1, measured(impl.AMin, "year"))})
	}
}

func TestAggsOfRandomOnes(t *testing.T) {
	source := rand.New(rand.NewSource(31))
	deep := 0
	for range 400 {
		docs := stockDocs(source, source.Intn(25))
		list := randomAggs(source, 8)
		q := randomSceneBranch(source, 2).query()
		if source.Intn(2) == 0 {
			q = queryOf(t, "*")
		}
		wantSameBuckets(t, scene(), docs, q, list)
		buckets, _ := impl.Aggregate(scene(), docs, q, list)
		for _, b := range buckets {
			deep += btoi(b.Parent >= 0 && buckets[b.Parent].Parent >= 0)
		}
	}
	if deep < 500 {
		t.Errorf("only %d buckets stand two deep", deep)
	}
}
