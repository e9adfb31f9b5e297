package tests

import (
	"cmp"
	"fmt"
	"math/big"
	"math/rand"
	"slices"
	"testing"

	"loop.example/g00018/impl"
)

// What the document says of aggregations, told a second time: a tree of crates in
// which every key is held against every document, put in order by counting those
// ahead, and then laid flat.

// A crate is a bucket with its documents and the crates below it.
type crate struct {
	bucket impl.Bucket
	docs   []impl.Doc
	below  []crate
}

// An aggPlan is what is asked, with what the queries of filters match in all
// documents.
type aggPlan struct {
	list []impl.Agg
	hits [][]impl.Hit
}

func textsHad(d impl.Doc, field string) []string {
	for _, v := range d.Values {
		if v.Field == field {
			return v.Texts
		}
	}
	return nil
}

func numbersHad(docs []impl.Doc, field string) []int {
	var list []int
	for _, d := range docs {
		for _, v := range d.Values {
			if v.Field == field {
				list = append(list, v.Numbers...)
			}
		}
	}
	return list
}

// docsWhere tells the documents of which something holds.
func docsWhere(docs []impl.Doc, holds func(d impl.Doc) bool) []impl.Doc {
	var list []impl.Doc
	for _, d := range docs {
		if holds(d) {
			list = append(list, d)
		}
	}
	return list
}

func docsWithText(docs []impl.Doc, field, text string) []impl.Doc {
	return docsWhere(docs, func(d impl.Doc) bool { return slices.Contains(textsHad(d, field), text) })
}

func docsWithNumber(docs []impl.Doc, field string, lo, hi int) []impl.Doc {
	return docsWhere(docs, func(d impl.Doc) bool {
		return slices.ContainsFunc(numbersHad([]impl.Doc{d}, field), func(n int) bool { return lo <= n && n <= hi })
	})
}

func docsThatHit(docs []impl.Doc, hits []impl.Hit) []impl.Doc {
	return docsWhere(docs, func(d impl.Doc) bool {
		return slices.ContainsFunc(hits, func(h impl.Hit) bool { return h.Id == d.Id })
	})
}

func textCrates(a impl.Agg, docs []impl.Doc) []crate {
	var texts []string
	for _, d := range docs {
		texts = append(texts, textsHad(d, a.Field)...)
	}
	slices.Sort(texts)
	texts = slices.Compact(texts)
	count := func(text string) int { return len(docsWithText(docs, a.Field, text)) }
	told := make([]crate, min(len(texts), a.Size))
	for _, text := range texts {
		place := 0
		for _, other := range texts {
			place += btoi(count(other) > count(text) || count(other) == count(text) && other < text)
		}
		if place < a.Size {
			told[place] = crate{impl.Bucket{Key: text}, docsWithText(docs, a.Field, text), nil}
		}
	}
	return told
}

func stepCrates(a impl.Agg, docs []impl.Doc) []crate {
	var starts []int
	for _, n := range numbersHad(docs, a.Field) {
		wide, size := big.NewInt(int64(n)), big.NewInt(int64(a.Size))
		wide.Div(wide, size) // rounded down, as size is above nought
		starts = append(starts, int(wide.Mul(wide, size).Int64()))
	}
	slices.Sort(starts)
	var list []crate
	for _, from := range slices.Compact(starts) {
		list = append(list, crate{impl.Bucket{From: from}, docsWithNumber(docs, a.Field, from, from+a.Size-1), nil})
	}
	return list
}

// oneCrate tells the bucket of those kinds that have just one.
func (p aggPlan) oneCrate(agg int, docs []impl.Doc) crate {
	a := p.list[agg]
	if a.Kind == impl.AFilter {
		return crate{impl.Bucket{}, docsThatHit(docs, p.hits[agg]), nil}
	}
	numbers := numbersHad(docs, a.Field)
	slices.Sort(numbers)
	b := impl.Bucket{Count: len(numbers)}
	n := len(numbers)
	switch {
	case a.Kind == impl.ADistinct:
		var texts []string
		b.Count = 0
		for _, d := range docs {
			list := textsHad(d, a.Field)
			b.Count += btoi(len(list)+len(numbersHad([]impl.Doc{d}, a.Field)) > 0)
			texts = append(texts, list...)
		}
		slices.Sort(texts)
		b.Value = len(slices.Compact(texts)) + len(slices.Compact(numbers))
	case n == 0:
	case a.Kind == impl.ASum:
		for _, number := range numbers {
			b.Value += number
		}
	case a.Kind == impl.AMin:
		b.Value = numbers[0]
	case a.Kind == impl.AMax:
		b.Value = numbers[n-1]
	case a.Kind == impl.APart:
		b.Value = numbers[a.Size*(n-1)/100]
	}
	return crate{b, nil, nil}
}

// crates tells the tree of those that stand under an aggregation.
func (p aggPlan) crates(above int, docs []impl.Doc) []crate {
	var list []crate
	for i, a := range p.list {
		if a.Parent != above {
			continue
		}
		var some []crate
		switch a.Kind {
		case impl.ATerms:
			some = textCrates(a, docs)
		case impl.AStep:
			some = stepCrates(a, docs)
		case impl.ARange:
			for at := range len(a.Bounds) - 1 {
				from, next := a.Bounds[at], a.Bounds[at+1]
				some = append(some, crate{impl.Bucket{From: from}, docsWithNumber(docs, a.Field, from, next-1), nil})
			}
		default:
			some = []crate{p.oneCrate(i, docs)}
		}
		for _, c := range some {
			if a.Kind <= impl.AFilter {
				c.bucket.Count = len(c.docs)
				c.below = p.crates(i, c.docs)
			}
			c.bucket.Agg = i
			list = append(list, c)
		}
	}
	return list
}

func laidFlat(crates []crate, parent int, list []impl.Bucket) []impl.Bucket {
	for _, c := range crates {
		place := len(list)
		c.bucket.Parent = parent
		list = laidFlat(c.below, place, append(list, c.bucket))
	}
	return list
}

// aggFault tells the code of the aggregation at a place, of which those ahead have
// none.
func aggFault(s impl.Schema, list []impl.Agg, at int) int {
	a := list[at]
	under := a.Parent == -1 || 0 <= a.Parent && a.Parent < at && list[a.Parent].Kind <= 4
	size, bounds, query, field := a.Size == 0, len(a.Bounds) == 0, len(a.Query.Nodes) == 0, true
	switch a.Kind {
	case 1:
		size = 1 <= a.Size && a.Size <= 1000
	case 2:
		size = 1 <= a.Size && a.Size <= 1000*1000*1000
	case 3:
		n := len(a.Bounds)
		bounds = 2 <= n && n <= 16 && slices.IsSorted(a.Bounds) && len(slices.Compact(slices.Clone(a.Bounds))) == n && a.Bounds[0] >= -greatestNumber && a.Bounds[n-1] <= greatestNumber
	case 4:
		query, field = true, a.Field == ""
	case 9:
		size = 0 <= a.Size && a.Size <= 100
	}
	if !under || !size || !bounds || !query || !field || a.Kind < 1 || a.Kind > 9 {
		return impl.ErrBad
	}
	if a.Kind == 4 {
		return meaningCode(s, nil, a.Query)
	}
	def, ok := fieldOf(s, a.Field)
	number := def.Kind == impl.KNumber && a.Kind != 1
	word := def.Kind == impl.KWord && (a.Kind == 1 || a.Kind == 8)
	switch {
	case !ok:
		return impl.ErrField
	case !number && !word:
		return impl.ErrKind
	}
	return impl.OK
}

func aggsCode(s impl.Schema, docs []impl.Doc, q impl.Query, list []impl.Agg) int {
	code := meaningCode(s, docs, q)
	if code == impl.OK && len(list) > 16 {
		code = impl.ErrRange
	}
	for at := range list {
		if code == impl.OK {
			code = aggFault(s, list, at)
		}
	}
	return code
}

func bucketsOf(s impl.Schema, docs []impl.Doc, q impl.Query, list []impl.Agg) ([]impl.Bucket, int) {
	if code := aggsCode(s, docs, q, list); code != impl.OK {
		return nil, code
	}
	sense := senseOf(s, docs)
	p := aggPlan{list: list, hits: make([][]impl.Hit, len(list))}
	for i, a := range list {
		if a.Kind == impl.AFilter {
			p.hits[i] = sense.hits(a.Query)
		}
	}
	buckets := laidFlat(p.crates(-1, docsThatHit(docs, sense.hits(q))), -1, nil)
	if len(buckets) > 2000 {
		return nil, impl.ErrMany
	}
	return buckets, impl.OK
}

func shortAggs(list []impl.Agg) string {
	text := ""
	for _, a := range list {
		query := textOf(a.Query)
		a.Query = impl.Query{}
		text += fmt.Sprintf("%v %s; ", a, query)
	}
	return cutOff(text)
}

func shortBuckets(list []impl.Bucket) string {
	return cutOff(fmt.Sprintf("%+v", list))
}

func wantBuckets(t *testing.T, s impl.Schema, docs []impl.Doc, q impl.Query, list []impl.Agg, want []impl.Bucket, wantCode int) {
	t.Helper()
	got, code := impl.Aggregate(s, docs, q, list)
	if code != wantCode || !slices.Equal(got, want) {
		t.Errorf("Aggregate of %s with %s: %s, code %d, want %s, code %d", cutOff(textOf(q)), shortAggs(list), shortBuckets(got), code, shortBuckets(want), wantCode)
	}
}

// wantSameBuckets holds an answer against the document's words.
func wantSameBuckets(t *testing.T, s impl.Schema, docs []impl.Doc, q impl.Query, list []impl.Agg) {
	t.Helper()
	want, code := bucketsOf(s, docs, q, list)
	wantBuckets(t, s, docs, q, list, want, code)
}

// wantLaid wants these buckets, and the second telling to say so too.
func wantLaid(t *testing.T, s impl.Schema, docs []impl.Doc, q impl.Query, list []impl.Agg, want ...impl.Bucket) {
	t.Helper()
	if own, code := bucketsOf(s, docs, q, list); code != impl.OK || !slices.Equal(own, want) {
		t.Errorf("the second telling of %s: %s, code %d, want %s", shortAggs(list), shortBuckets(own), code, shortBuckets(want))
	}
	wantBuckets(t, s, docs, q, list, want, impl.OK)
}

// wantAggCode wants a code, with and without documents, and the second telling to
// say so too.
func wantAggCode(t *testing.T, s impl.Schema, docs []impl.Doc, q impl.Query, list []impl.Agg, want int) {
	t.Helper()
	for _, some := range [][]impl.Doc{docs, nil} {
		if own := aggsCode(s, some, q, list); own != want {
			t.Errorf("the second telling of %s: code %d, want %d", shortAggs(list), own, want)
		}
		buckets, code := impl.Aggregate(s, some, q, list)
		if code != want || code != impl.OK && len(buckets) > 0 {
			t.Errorf("Aggregate with %s: %s, code %d, want %d", shortAggs(list), shortBuckets(buckets), code, want)
		}
	}
}

// mustAggregate is for what can be asked.
func mustAggregate(t *testing.T, s impl.Schema, docs []impl.Doc, q impl.Query, list ...impl.Agg) []impl.Bucket {
	t.Helper()
	buckets, code := impl.Aggregate(s, docs, q, list)
	if code != impl.OK {
		t.Fatalf("Aggregate of %s with %s: code %d", textOf(q), shortAggs(list), code)
	}
	return buckets
}

// The aggregations, each without a parent.

func perTerm(field string, size int) impl.Agg {
	return impl.Agg{Parent: -1, Kind: impl.ATerms, Field: field, Size: size}
}

func perStep(field string, size int) impl.Agg {
	return impl.Agg{Parent: -1, Kind: impl.AStep, Field: field, Size: size}
}

func perRange(field string, bounds ...int) impl.Agg {
	return impl.Agg{Parent: -1, Kind: impl.ARange, Field: field, Bounds: bounds}
}

func filtered(q impl.Query) impl.Agg {
	return impl.Agg{Parent: -1, Kind: impl.AFilter, Query: q}
}

// measured is for a kind that has a field alone.
func measured(kind int, field string) impl.Agg {
	return impl.Agg{Parent: -1, Kind: kind, Field: field}
}

func part(field string, size int) impl.Agg {
	return impl.Agg{Parent: -1, Kind: impl.APart, Field: field, Size: size}
}

func under(parent int, a impl.Agg) impl.Agg {
	a.Parent = parent
	return a
}

// fair are documents of small with no value, one and several, some of them told
// twice.
func fair() []impl.Doc {
	return []impl.Doc{
		docWith("a", numbersIn("n", 5), textsIn("t", "cat"), textsIn("w", "red")),
		docWith("b", numbersIn("n", -1, -1, -6), textsIn("t", "cat dog"), textsIn("w", "red", "blue", "red")),
		docWith("c", numbersIn("n", 0, 4), textsIn("t", "dog"), textsIn("w", "blue")),
		docWith("d", textsIn("t", "cat")),
		docWith("e", numbersIn("n", 9, 5), textsIn("t", "cat"), textsIn("w", "green")),
		docWith("f", textsIn("w", "red")),
	}
}

// randomAggs tells aggregations of documents of scene, some under others.
func randomAggs(source *rand.Rand, most int) []impl.Agg {
	var list []impl.Agg
	for range source.Intn(most + 1) {
		number := []string{"n", "year"}[source.Intn(2)]
		a := []impl.Agg{
			perTerm("tag", 1+source.Intn(4)), perStep(number, 1+source.Intn(4)), perRange(number, randomBounds(source)...),
			filtered(randomSceneBranch(source, 2).query()), measured(impl.ASum, number), measured(impl.AMin, number), measured(impl.AMax, number),
			measured(impl.ADistinct, number), measured(impl.ADistinct, "tag"), part(number, source.Intn(101)),
		}[source.Intn([]int{4, 10}[source.Intn(2)])]
		if at := source.Intn(len(list) + 1); at < len(list) && list[at].Kind <= impl.AFilter {
			a.Parent = at
		}
		list = append(list, a)
	}
	return list
}

func randomBounds(source *rand.Rand) []int {
	var list []int
	for range 2 + source.Intn(4) {
		list = append(list, source.Intn(9)-4)
	}
	slices.SortFunc(list, cmp.Compare)
	list = slices.Compact(list)
	return append(list, list[len(list)-1]+1)
}
