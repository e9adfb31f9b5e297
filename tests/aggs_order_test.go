package tests

import (
	"math/rand"
	"slices"
	"testing"

	"loop.example/g00018/impl"
)

// Under each of the four kinds that make buckets: right behind each bucket stand
// those of all the aggregations under it, in order.
func TestAggsUnderTerms(t *testing.T) {
	wantLaid(t, small(), fair(), queryOf(t, "*"), []impl.Agg{perTerm("w", 2), under(0, measured(impl.ASum, "n")), under(0, perTerm("w", 9)), measured(impl.AMax, "n")},
		impl.Bucket{Agg: 0, Parent: -1, Key: "red", Count: 3},
		impl.Bucket{Agg: 1, Parent: 0, Count: 4, Value: -3},
		impl.Bucket{Agg: 2, Parent: 0, Key: "red", Count: 3}, impl.Bucket{Agg: 2, Parent: 0, Key: "blue", Count: 1},
		impl.Bucket{Agg: 0, Parent: -1, Key: "blue", Count: 2},
		impl.Bucket{Agg: 1, Parent: 4, Count: 5, Value: -4},
		impl.Bucket{Agg: 2, Parent: 4, Key: "blue", Count: 2}, impl.Bucket{Agg: 2, Parent: 4, Key: "red", Count: 1},
		impl.Bucket{Agg: 3, Parent: -1, Count: 8, Value: 9},
	)
}

// Of a document that a bucket counts all numbers are looked at, not only those for
// which it is counted.
func TestAggsUnderSteps(t *testing.T) {
	wantLaid(t, small(), fair(), queryOf(t, "*"), []impl.Agg{measured(impl.AMin, "n"), perStep("n", 5), under(1, measured(impl.ASum, "n")), under(1, measured(impl.ADistinct, "w"))},
		impl.Bucket{Agg: 0, Parent: -1, Count: 8, Value: -6},
		impl.Bucket{Agg: 1, Parent: -1, From: -10, Count: 1}, impl.Bucket{Agg: 2, Parent: 1, Count: 3, Value: -8}, impl.Bucket{Agg: 3, Parent: 1, Count: 1, Value: 2},
		impl.Bucket{Agg: 1, Parent: -1, From: -5, Count: 1}, impl.Bucket{Agg: 2, Parent: 4, Count: 3, Value: -8}, impl.Bucket{Agg: 3, Parent: 4, Count: 1, Value: 2},
		impl.Bucket{Agg: 1, Parent: -1, From: 0, Count: 1}, impl.Bucket{Agg: 2, Parent: 7, Count: 2, Value: 4}, impl.Bucket{Agg: 3, Parent: 7, Count: 1, Value: 1},
		impl.Bucket{Agg: 1, Parent: -1, From: 5, Count: 2}, impl.Bucket{Agg: 2, Parent: 10, Count: 3, Value: 19}, impl.Bucket{Agg: 3, Parent: 10, Count: 2, Value: 2},
	)
}

// Also an empty bucket has those of one bucket each under it.
func TestAggsUnderRanges(t *testing.T) {
	wantLaid(t, small(), fair(), queryOf(t, "*"), []impl.Agg{perRange("n", -9, 0, 1, 4), under(0, perTerm("w", 9)), under(0, filtered(queryOf(t, "cat"))), under(0, part("n", 0)), under(0, perStep("n", 5))},
		impl.Bucket{Agg: 0, Parent: -1, From: -9, Count: 1},
		impl.Bucket{Agg: 1, Parent: 0, Key: "blue", Count: 1}, impl.Bucket{Agg: 1, Parent: 0, Key: "red", Count: 1}, impl.Bucket{Agg: 2, Parent: 0, Count: 1}, impl.Bucket{Agg: 3, Parent: 0, Count: 3, Value: -6},
		impl.Bucket{Agg: 4, Parent: 0, From: -10, Count: 1}, impl.Bucket{Agg: 4, Parent: 0, From: -5, Count: 1},
		impl.Bucket{Agg: 0, Parent: -1, From: 0, Count: 1},
		impl.Bucket{Agg: 1, Parent: 7, Key: "blue", Count: 1}, impl.Bucket{Agg: 2, Parent: 7}, impl.Bucket{Agg: 3, Parent: 7, Count: 2}, impl.Bucket{Agg: 4, Parent: 7, From: 0, Count: 1},
		impl.Bucket{Agg: 0, Parent: -1, From: 1},
		impl.Bucket{Agg: 2, Parent: 12}, impl.Bucket{Agg: 3, Parent: 12},
	)
	wantLaid(t, small(), nil, queryOf(t, "*"), []impl.Agg{perRange("n", 1, 2, 3), under(0, perRange("n", -1, 0)), under(1, measured(impl.ASum, "n"))},
		impl.Bucket{Agg: 0, Parent: -1, From: 1}, impl.Bucket{Agg: 1, Parent: 0, From: -1}, impl.Bucket{Agg: 2, Parent: 1},
		impl.Bucket{Agg: 0, Parent: -1, From: 2}, impl.Bucket{Agg: 1, Parent: 3, From: -1}, impl.Bucket{Agg: 2, Parent: 4},
	)
}

func TestAggsUnderFilters(t *testing.T) {
	wantLaid(t, small(), fair(), queryOf(t, "*"), []impl.Agg{filtered(queryOf(t, "cat")), filtered(queryOf(t, "w:red")), under(0, measured(impl.AMax, "n")), under(0, filtered(queryOf(t, "dog"))), under(3, measured(impl.AMax, "n")), under(1, perTerm("w", 1)), under(5, measured(impl.AMax, "n"))},
		impl.Bucket{Agg: 0, Parent: -1, Count: 4}, impl.Bucket{Agg: 2, Parent: 0, Count: 6, Value: 9},
		impl.Bucket{Agg: 3, Parent: 0, Count: 1}, impl.Bucket{Agg: 4, Parent: 2, Count: 3, Value: -1},
		impl.Bucket{Agg: 1, Parent: -1, Count: 3}, impl.Bucket{Agg: 5, Parent: 4, Key: "red", Count: 3}, impl.Bucket{Agg: 6, Parent: 5, Count: 4, Value: 5},
	)
}

// Those under one need not stand side by side in the list, nor right behind it.
func TestAggsInAnyOrder(t *testing.T) {
	list := []impl.Agg{perTerm("w", 1), perStep("n", 100), under(0, measured(impl.AMin, "n")), under(1, measured(impl.AMin, "n")), under(0, perRange("n", 0, 5)), under(1, measured(impl.AMax, "n")), under(4, measured(impl.AMax, "n")), under(0, measured(impl.ASum, "n")), measured(impl.ASum, "n"), under(4, measured(impl.ASum, "n"))}
	wantLaid(t, small(), fair(), queryOf(t, "n:[0 *]"), list,
		impl.Bucket{Agg: 0, Parent: -1, Key: "blue", Count: 1}, impl.Bucket{Agg: 2, Parent: 0, Count: 2},
		impl.Bucket{Agg: 4, Parent: 0, From: 0, Count: 1}, impl.Bucket{Agg: 6, Parent: 2, Count: 2, Value: 4}, impl.Bucket{Agg: 9, Parent: 2, Count: 2, Value: 4},
		impl.Bucket{Agg: 7, Parent: 0, Count: 2, Value: 4},
		impl.Bucket{Agg: 1, Parent: -1, From: 0, Count: 3}, impl.Bucket{Agg: 3, Parent: 6, Count: 5}, impl.Bucket{Agg: 5, Parent: 6, Count: 5, Value: 9},
		impl.Bucket{Agg: 8, Parent: -1, Count: 5, Value: 23},
	)
}

// Every kind under each of the four that make buckets, and these under each of
// the four: three deep.
func TestAggsOfEveryKindUnderEvery(t *testing.T) {
	makers := []impl.Agg{perTerm("tag", 3), perStep("n", 2), perRange("n", -2, 0, 1, 3), filtered(queryOf(t, "cat tag:x"))}
	kinds := append(slices.Clone(makers), measured(impl.ASum, "year"), measured(impl.AMin, "n"), measured(impl.AMax, "year"), measured(impl.ADistinct, "tag"), measured(impl.ADistinct, "n"), part("n", 40))
	docs := stockDocs(rand.New(rand.NewSource(32)), 14)
	for _, first := range makers {
		for _, second := range makers {
			for _, third := range kinds {
				list := []impl.Agg{first, under(0, second), under(1, third), under(0, measured(impl.ASum, "n"))}
				wantSameBuckets(t, scene(), docs, queryOf(t, "*"), list)
				wantSameBuckets(t, scene(), docs, queryOf(t, "dog tag:red"), list)
			}
		}
	}
}

// All sixteen, one under the other.
func TestAggsSixteenDeep(t *testing.T) {
	for _, a := range []impl.Agg{perTerm("w", 1), perStep("n", 1000), perRange("n", 0, 100), filtered(queryOf(t, "cat"))} {
		var list []impl.Agg
		for i := range 15 {
			list = append(list, under(i-1, a))
		}
		list = append(list, under(14, measured(impl.ASum, "n")))
		wantSameBuckets(t, small(), fair()[:1], queryOf(t, "*"), list)
		buckets := mustAggregate(t, small(), fair()[:1], queryOf(t, "*"), list...)
		for i, b := range buckets {
			if b.Agg != i || b.Parent != i-1 {
				t.Errorf("bucket %d of %d: %+v", i, len(buckets), b)
			}
		}
		if n := len(buckets); n != 16 || buckets[15].Value != 5 {
			t.Errorf("%s", shortBuckets(buckets))
		}
	}
}
