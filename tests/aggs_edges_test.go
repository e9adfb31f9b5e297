package tests

import (
	"fmt"
	"math"
	"slices"
	"strings"
	"testing"

	"loop.example/g00018/impl"
)

func TestAggsLimitsOnHowMany(t *testing.T) {
	all := queryOf(t, "*")
	for n := range 20 {
		list := slices.Repeat([]impl.Agg{measured(impl.ASum, "n")}, n)
		if n > 16 {
			wantAggCode(t, small(), fair(), all, list, impl.ErrRange)
			continue
		}
		wantSameBuckets(t, small(), fair(), all, list)
		if buckets := mustAggregate(t, small(), fair(), all, list...); len(buckets) != n {
			t.Errorf("%d aggregations: %s", n, shortBuckets(buckets))
		}
	}
	wantAggCode(t, small(), fair(), all, make([]impl.Agg, 16), impl.ErrBad)
	wantAggCode(t, small(), fair(), all, make([]impl.Agg, 17), impl.ErrRange)
}

// spread tells documents with this many different numbers, and as many words, in
// all.
func spread(count int) []impl.Doc {
	var docs []impl.Doc
	for i := range count {
		if i%16 == 0 {
			docs = append(docs, docWith(fmt.Sprintf("d%04d", i), impl.Value{Field: "n"}, impl.Value{Field: "w"}))
		}
		values := docs[len(docs)-1].Values
		values[0].Numbers = append(values[0].Numbers, 3*i)
		values[1].Texts = append(values[1].Texts, fmt.Sprintf("w%04d", i))
	}
	return docs
}

func wantHowMany(t *testing.T, docs []impl.Doc, count int, list ...impl.Agg) {
	t.Helper()
	code := impl.OK
	if count > 2000 {
		count, code = 0, impl.ErrMany
	}
	buckets, got := impl.Aggregate(small(), docs, queryOf(t, "*"), list)
	if got != code || len(buckets) != count {
		t.Errorf("Aggregate with %s: %d buckets, code %d, want %d, code %d", shortAggs(list), len(buckets), got, count, code)
	}
}

// As many buckets as there may be, one fewer and one more, at the top, below and
// put together.
func TestAggsLimitsOnBuckets(t *testing.T) {
	for _, n := range []int{1999, 2000, 2001, 2002, 4000, 8192} {
		docs := spread(n)
		wantHowMany(t, docs, n, perStep("n", 1))
		wantHowMany(t, docs, n, perStep("n", 3))
		wantHowMany(t, docs, n+1, perStep("n", 1), measured(impl.ASum, "n"))
		wantHowMany(t, docs, n+1, measured(impl.ASum, "n"), perStep("n", 1))
		wantHowMany(t, docs, n+1, filtered(queryOf(t, "*")), under(0, perStep("n", 1)))
		wantHowMany(t, docs, min(n, 1000), perTerm("w", 1000))
		wantHowMany(t, docs, min(n, 1000)+1000, perTerm("w", 1000), perTerm("w", 1000))
		wantHowMany(t, docs, 2*1000+1, perTerm("w", 1000), perTerm("w", 1000), measured(impl.AMax, "n"))
	}
	for _, n := range []int{666, 667, 999, 1000, 1001} {
		wantHowMany(t, spread(n), 2*n, perStep("n", 1), under(0, measured(impl.ASum, "n")))
		wantHowMany(t, spread(n), 2*n+1, perStep("n", 1), under(0, filtered(queryOf(t, "w:none"))), measured(impl.AMin, "n"))
		wantHowMany(t, spread(n), 3*n, perTerm("w", 1000), under(0, measured(impl.ASum, "n")), under(0, measured(impl.AMin, "n")))
	}
	// A bucket more that comes last, and one that comes first.
	sixteen := []int{0, 1, 2, 3, 4, 5, 6, 7, 8, 9, 10, 11, 12, 13, 14, 15}
	wantHowMany(t, nil, 15+15*15, perRange("n", sixteen...), under(0, perRange("n", sixteen...)))
	wantHowMany(t, nil, 15+15*15+15*15*7+185, perRange("n", sixteen...), under(0, perRange("n", sixteen...)), under(1, perRange("n", sixteen[:8]...)), perRange("n", sixteen...), under(3, perRange("n", sixteen[:12]...)), measured(impl.AMax, "n"), measured(impl.AMax, "n"), measured(impl.AMax, "n"), measured(impl.AMax, "n"), measured(impl.AMax, "n"))
	eight := []impl.Agg{perRange("n", sixteen...), under(0, perRange("n", sixteen...)), under(1, perRange("n", sixteen[:8]...))}
	wantHowMany(t, nil, 1815+125+60, append(eight, perRange("n", sixteen[:6]...), under(3, perRange("n", sixteen[:13]...)), under(3, perRange("n", sixteen[:13]...)), perRange("n", sixteen[:13]...), perRange("n", sixteen...), perRange("n", sixteen...), perRange("n", sixteen...), measured(impl.AMax, "n"), measured(impl.AMax, "n"), measured(impl.AMax, "n"))...)
	wantHowMany(t, nil, 1815+125+61, append(eight, perRange("n", sixteen[:6]...), under(3, perRange("n", sixteen[:13]...)), under(3, perRange("n", sixteen[:13]...)), perRange("n", sixteen[:13]...), perRange("n", sixteen...), perRange("n", sixteen...), perRange("n", sixteen...), measured(impl.AMax, "n"), measured(impl.AMax, "n"), measured(impl.AMax, "n"), measured(impl.AMax, "n"))...)
}

// Far more buckets than could ever be told: it ends at once.
func TestAggsOfFarTooManyBuckets(t *testing.T) {
	docs := numbered(512)
	var numbers []int
	var words []string
	for i := range 16 {
		numbers, words = append(numbers, i), append(words, fmt.Sprint("w", i))
	}
	for i := range docs {
		docs[i].Values = []impl.Value{numbersIn("n", numbers...), textsIn("w", words...)}
	}
	for _, a := range []impl.Agg{perTerm("w", 1000), perStep("n", 1), perRange("n", numbers...)} {
		var list []impl.Agg
		for i := range 16 {
			list = append(list, under(i-1, a))
		}
		wantHowMany(t, docs, 2001, list...)
		wantHowMany(t, docs, 2001, append(list[:8:8], slices.Repeat([]impl.Agg{under(3, a)}, 8)...)...)
		wantHowMany(t, docs, 16+btoi(a.Kind == impl.ARange)*-1, a)
	}
}

// Size at its bounds and one beyond each, for every kind.
func TestAggsLimitsOnSize(t *testing.T) {
	sizes := []int{math.MinInt, -1000000000, -1, 0, 1, 2, 99, 100, 101, 999, 1000, 1001, 999999999, 1000000000, 1000000001, math.MaxInt}
	for kind, span := range map[int][2]int{1: {1, 1000}, 2: {1, 1000000000}, 3: {0, 0}, 4: {0, 0}, 5: {0, 0}, 6: {0, 0}, 7: {0, 0}, 8: {0, 0}, 9: {0, 100}} {
		for _, size := range sizes {
			a := rightAgg(t, kind)
			a.Size = size
			code := impl.OK
			if size < span[0] || size > span[1] {
				code = impl.ErrBad
			}
			wantAggCode(t, small(), fair(), queryOf(t, "*"), []impl.Agg{a}, code)
			if code == impl.OK {
				wantSameBuckets(t, small(), fair(), queryOf(t, "*"), []impl.Agg{a})
			}
		}
	}
}

// rightAgg tells an aggregation of a kind that can be asked of documents of small.
func rightAgg(t *testing.T, kind int) impl.Agg {
	t.Helper()
	switch kind {
	case impl.ATerms:
		return perTerm("w", 5)
	case impl.AStep:
		return perStep("n", 5)
	case impl.ARange:
		return perRange("n", -2, 0, 5)
	case impl.AFilter:
		return filtered(queryOf(t, "cat (w:red n:5)"))
	}
	return measured(kind, "n")
}

func TestAggsLimitsOnBounds(t *testing.T) {
	all := queryOf(t, "*")
	for n := range 20 {
		var bounds []int
		for i := range n {
			bounds = append(bounds, 2*i-8)
		}
		code := impl.OK
		if n < 2 || n > 16 {
			code = impl.ErrBad
		}
		a := perRange("n", bounds...)
		wantAggCode(t, small(), fair(), all, []impl.Agg{a}, code)
		if code == impl.OK {
			wantSameBuckets(t, small(), fair(), all, []impl.Agg{a, under(0, measured(impl.ASum, "n"))})
		}
	}
	const most = greatestNumber
	for _, c := range []struct {
		bounds []int
		code   int
	}{
		{[]int{-most, most}, impl.OK}, {[]int{-most, -most + 1, 0, most - 1, most}, impl.OK}, {[]int{most - 1, most}, impl.OK}, {[]int{-most, -most + 1}, impl.OK},
		{[]int{-most - 1, most}, impl.ErrBad}, {[]int{-most, most + 1}, impl.ErrBad}, {[]int{0, 1, most + 1}, impl.ErrBad}, {[]int{math.MinInt, math.MaxInt}, impl.ErrBad}, {[]int{math.MinInt, 0}, impl.ErrBad}, {[]int{0, math.MaxInt}, impl.ErrBad}, {[]int{most, most + 1}, impl.ErrBad}, {[]int{-most - 1, -most}, impl.ErrBad},
		{[]int{0, 0}, impl.ErrBad}, {[]int{1, 0}, impl.ErrBad}, {[]int{0, 1, 1}, impl.ErrBad}, {[]int{0, 0, 1}, impl.ErrBad}, {[]int{0, 2, 1}, impl.ErrBad}, {[]int{2, 0, 1}, impl.ErrBad}, {[]int{most, -most}, impl.ErrBad}, {[]int{-1, -2}, impl.ErrBad}, {[]int{0, 1, 2, 3, 4, 5, 6, 7, 8, 9, 10, 11, 12, 13, 14, 14}, impl.ErrBad},
	} {
		wantAggCode(t, small(), fair(), all, []impl.Agg{perRange("n", c.bounds...)}, c.code)
	}
}

// The greatest and the least number in every kind.
func TestAggsOfGreatNumbers(t *testing.T) {
	const most = greatestNumber
	docs := []impl.Doc{docWith("a", numbersIn("n", most, -most)), docWith("b", numbersIn("n", most-1)), docWith("c", numbersIn("n", -most+1, 0))}
	all := queryOf(t, "*")
	one := func(from, count int) impl.Bucket { return impl.Bucket{Parent: -1, From: from, Count: count} }
	wantLaid(t, small(), docs, all, []impl.Agg{perStep("n", 1)}, one(-most, 1), one(-most+1, 1), one(0, 1), one(most-1, 1), one(most, 1))
	wantLaid(t, small(), docs, all, []impl.Agg{perStep("n", 1000000000)}, one(-most, 2), one(0, 1), one(most-1000000000, 1), one(most, 1))
	wantLaid(t, small(), docs, all, []impl.Agg{perStep("n", 999999999)}, one(-1000*999999999-999999999, 2), one(0, 1), one(1000*999999999, 2))
	wantLaid(t, small(), docs, all, []impl.Agg{perStep("n", 7)}, one(-most-6, 1), one(-most+1, 1), one(0, 1), one(most-1, 2))
	wantLaid(t, small(), docs, all, []impl.Agg{perRange("n", -most, most)}, one(-most, 3))
	wantLaid(t, small(), docs, all, []impl.Agg{perRange("n", -most, -most+1, most-1, most)}, one(-most, 1), one(-most+1, 1), one(most-1, 1))
	measure := func(a impl.Agg, count, value int) {
		t.Helper()
		wantLaid(t, small(), docs, all, []impl.Agg{a}, impl.Bucket{Parent: -1, Count: count, Value: value})
	}
	measure(measured(impl.ASum, "n"), 5, 0)
	measure(measured(impl.AMin, "n"), 5, -most)
	measure(measured(impl.AMax, "n"), 5, most)
	measure(measured(impl.ADistinct, "n"), 3, 5)
	measure(part("n", 0), 5, -most)
	measure(part("n", 100), 5, most)
	measure(part("n", 99), 5, most-1)
	measure(part("n", 25), 5, -most+1)
	measure(part("n", 24), 5, -most)
}

// The most documents with the most values, all at the bound: no sum wraps.
func TestAggsOfTheMostNumbers(t *testing.T) {
	for _, n := range []int{greatestNumber, -greatestNumber} {
		docs := numbered(512)
		for i := range docs {
			docs[i].Values = []impl.Value{numbersIn("n", slices.Repeat([]int{n}, 16)...)}
		}
		buckets := mustAggregate(t, small(), docs, queryOf(t, "*"), measured(impl.ASum, "n"), measured(impl.AMin, "n"), measured(impl.AMax, "n"), measured(impl.ADistinct, "n"), part("n", 33), perStep("n", 1000000000))
		want := []impl.Bucket{{Agg: 0, Parent: -1, Count: 8192, Value: 8192 * n}, {Agg: 1, Parent: -1, Count: 8192, Value: n}, {Agg: 2, Parent: -1, Count: 8192, Value: n}, {Agg: 3, Parent: -1, Count: 512, Value: 1}, {Agg: 4, Parent: -1, Count: 8192, Value: n}, {Agg: 5, Parent: -1, From: n, Count: 512}}
		if !slices.Equal(buckets, want) {
			t.Errorf("%s, want %s", shortBuckets(buckets), shortBuckets(want))
		}
	}
	wantBuckets(t, small(), numbered(513), queryOf(t, "*"), []impl.Agg{measured(impl.ASum, "n")}, nil, impl.ErrMany)
}

// The longest texts, and as many of them as a document holds.
func TestAggTermsOfLongTexts(t *testing.T) {
	long := strings.Repeat("x", 64)
	var texts []string
	for i := range 15 {
		texts = append(texts, long[:63]+string(rune('a'+i)))
	}
	docs := []impl.Doc{docWith("a", textsIn("w", texts...)), docWith("b", textsIn("w", long, texts[14]))}
	wantSameBuckets(t, small(), docs, queryOf(t, "*"), []impl.Agg{perTerm("w", 1000), measured(impl.ADistinct, "w")})
	wantSameBuckets(t, small(), docs, queryOf(t, "*"), []impl.Agg{perTerm("w", 3), under(0, perTerm("w", 3))})
}

// No documents at all, and none that the query matches.
func TestAggsOfNothing(t *testing.T) {
	var list []impl.Agg
	var want []impl.Bucket
	for kind := 1; kind <= 9; kind++ {
		list = append(list, rightAgg(t, kind))
		b := impl.Bucket{Agg: kind - 1, Parent: -1}
		switch kind {
		case impl.ATerms, impl.AStep:
			continue
		case impl.ARange:
			want = append(want, impl.Bucket{Agg: 2, Parent: -1, From: -2})
		}
		want = append(want, b)
	}
	wantLaid(t, small(), nil, queryOf(t, "*"), list, want...)
	wantLaid(t, small(), []impl.Doc{}, queryOf(t, "*"), list, want...)
	wantLaid(t, small(), fair(), queryOf(t, "w:none"), list, want...)
	wantLaid(t, small(), fair(), queryOf(t, "-*"), list, want...)
	wantLaid(t, small(), numbered(3), queryOf(t, "*"), list, want...)
	wantLaid(t, small(), fair(), queryOf(t, "*"), nil)
	wantLaid(t, small(), fair(), queryOf(t, "*"), []impl.Agg{})
	wantLaid(t, small(), nil, queryOf(t, "*"), nil)
}

// An empty list is as good as nil where nothing is named.
func TestAggsOfEmptyLists(t *testing.T) {
	for kind := 1; kind <= 9; kind++ {
		a := rightAgg(t, kind)
		if kind != impl.ARange {
			a.Bounds = []int{}
		}
		if kind != impl.AFilter {
			a.Query.Nodes = []impl.Node{}
		}
		wantSameBuckets(t, small(), fair(), queryOf(t, "*"), []impl.Agg{a})
		wantAggCode(t, small(), fair(), queryOf(t, "*"), []impl.Agg{a}, impl.OK)
	}
}
