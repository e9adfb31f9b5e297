package tests

import (
	"math"
	"slices"
	"strings"
	"testing"

	"loop.example/g00018/impl"
)

// An aggsAsk is all that is handed in.
type aggsAsk struct {
	s    impl.Schema
	docs []impl.Doc
	q    impl.Query
	list []impl.Agg
}

// rightAggs is an ask without a fault.
func rightAggs(t *testing.T) *aggsAsk {
	t.Helper()
	return &aggsAsk{scene(), sceneDocs(), queryOf(t, "cat (plain:dog *)"), []impl.Agg{
		perTerm("tag", 3), under(0, perRange("n", 0, 5, 9)), under(0, filtered(queryOf(t, "cat plain:dog"))), under(2, measured(impl.ASum, "year")),
	}}
}

// An aggsFault makes one thing wrong.
type aggsFault struct {
	code  int
	apply func(a *aggsAsk)
}

// aggsFaults are in the document's order.
func aggsFaults() []aggsFault {
	return []aggsFault{
		{impl.ErrMany, func(a *aggsAsk) { a.docs = append(a.docs, numbered(513)...) }},
		{impl.ErrBad, func(a *aggsAsk) { a.s.Fields[0].Name = "Body" }},
		{impl.ErrBad, func(a *aggsAsk) { a.docs = append(a.docs, docWith("bad", textsIn("n", "1"))) }},
		{impl.ErrBad, func(a *aggsAsk) { a.q.Nodes[0].Boost = 0 }},
		{impl.ErrExists, func(a *aggsAsk) { a.docs = append(a.docs, docWith(a.docs[0].Id)) }},
		{impl.ErrField, func(a *aggsAsk) { a.q.Nodes[1].Field = "none" }},
		{impl.ErrRange, func(a *aggsAsk) { a.list = append(a.list, slices.Repeat(a.list[:1], 13)...) }},
		{impl.ErrBad, func(a *aggsAsk) { a.list[0].Parent = 0 }},
		{impl.ErrBad, func(a *aggsAsk) { a.list[0].Size = 1001 }},
		{impl.ErrField, func(a *aggsAsk) { a.list[0].Field = "none" }},
		{impl.ErrKind, func(a *aggsAsk) {
			if a.list[0].Field == "tag" { // else it is not there, which counts ahead
				a.list[0].Field = "n"
			}
		}},
		{impl.ErrBad, func(a *aggsAsk) { a.list[1].Bounds[1] = 0 }},
		{impl.ErrBad, func(a *aggsAsk) { a.list[1].Query = a.list[2].Query }},
		{impl.ErrField, func(a *aggsAsk) { a.list[1].Field = "" }},
		{impl.ErrKind, func(a *aggsAsk) {
			if a.list[1].Field == "n" {
				a.list[1].Field = "plain"
			}
		}},
		{impl.ErrBad, func(a *aggsAsk) { a.list[2].Parent = 2 }},
		{impl.ErrBad, func(a *aggsAsk) { a.list[2].Field = "tag" }},
		{impl.ErrBad, func(a *aggsAsk) { a.list[2].Query.Nodes[0].Role = 1 }},
		{impl.ErrField, func(a *aggsAsk) { a.list[2].Query.Nodes[2].Field = "none" }},
		{impl.ErrBad, func(a *aggsAsk) { a.list[3].Size = 1 }},
		{impl.ErrField, func(a *aggsAsk) { a.list[3].Field = "years" }},
		{impl.ErrKind, func(a *aggsAsk) {
			if a.list[3].Field == "year" {
				a.list[3].Field = "tag"
			}
		}},
	}
}

// Each fault alone, each two, and all from one on: the first one counts.
func TestAggsFaultsInOrder(t *testing.T) {
	faults := aggsFaults()
	want := func(code int, picked ...aggsFault) {
		t.Helper()
		a := rightAggs(t)
		for _, fault := range picked {
			fault.apply(a)
		}
		if own := aggsCode(a.s, a.docs, a.q, a.list); own != code {
			t.Fatalf("the second telling: code %d, want %d", own, code)
		}
		wantBuckets(t, a.s, a.docs, a.q, a.list, nil, code)
	}
	right := rightAggs(t)
	wantSameBuckets(t, right.s, right.docs, right.q, right.list)
	for i, first := range faults {
		want(first.code, first)
		for _, second := range faults[i+1:] {
			want(first.code, first, second)
		}
		want(first.code, faults[i:]...)
	}
}

// What is wrong with an aggregation counts ahead of too many buckets, also behind
// those of which they come.
func TestAggsFaultsAheadOfTooMany(t *testing.T) {
	docs := spread(2001)
	all := queryOf(t, "*")
	wantBuckets(t, small(), docs, all, []impl.Agg{perStep("n", 1)}, nil, impl.ErrMany)
	for _, c := range []struct {
		a    impl.Agg
		code int
	}{
		{measured(10, "n"), impl.ErrBad}, {measured(impl.ASum, "none"), impl.ErrField}, {measured(impl.ASum, "w"), impl.ErrKind}, {filtered(impl.Query{}), impl.ErrBad}, {filtered(queryOf(t, "none:x")), impl.ErrField}, {measured(impl.ASum, "n"), impl.ErrMany},
	} {
		wantBuckets(t, small(), docs, all, []impl.Agg{perStep("n", 1), c.a}, nil, c.code)
		wantBuckets(t, small(), docs, all, []impl.Agg{perStep("n", 1), perTerm("w", 3), under(1, perStep("n", 1)), under(2, c.a)}, nil, c.code)
		wantBuckets(t, small(), docs, all, append(slices.Repeat([]impl.Agg{perStep("n", 1)}, 16), c.a), nil, impl.ErrRange)
	}
}

func TestAggsOfWrongParents(t *testing.T) {
	all := queryOf(t, "*")
	parents := []int{math.MinInt, -3, -2, -1, 0, 1, 2, 3, 4, 15, 16, math.MaxInt}
	for above := 1; above <= 9; above++ {
		for kind := 1; kind <= 9; kind++ {
			for _, parent := range parents {
				code := impl.ErrBad
				if parent == -1 || parent == 0 && above <= 4 || parent == 1 {
					code = impl.OK
				}
				list := []impl.Agg{rightAgg(t, above), filtered(all), under(parent, rightAgg(t, kind)), measured(impl.AMax, "n")}
				wantAggCode(t, small(), fair(), all, list, code)
				if code == impl.OK {
					wantSameBuckets(t, small(), fair(), all, list)
				}
			}
		}
	}
	for _, parent := range parents {
		code := impl.ErrBad
		if parent == -1 {
			code = impl.OK
		}
		wantAggCode(t, small(), fair(), all, []impl.Agg{under(parent, perTerm("w", 1))}, code)
		wantAggCode(t, small(), fair(), all, []impl.Agg{under(parent, measured(impl.ASum, "n")), perTerm("w", 1)}, code)
	}
}

func TestAggsOfWrongKinds(t *testing.T) {
	all := queryOf(t, "*")
	for _, kind := range []int{math.MinInt, -9, -1, 0, 10, 11, 100, math.MaxInt} {
		for _, a := range []impl.Agg{{Parent: -1, Kind: kind}, measured(kind, "n"), measured(kind, "w"), measured(kind, "none"), {Parent: -1, Kind: kind, Field: "n", Size: 5}, {Parent: -1, Kind: kind, Field: "n", Bounds: []int{1, 2}}, {Parent: -1, Kind: kind, Query: all}} {
			wantAggCode(t, small(), fair(), all, []impl.Agg{a}, impl.ErrBad)
			wantAggCode(t, small(), fair(), all, []impl.Agg{perTerm("w", 2), under(0, a)}, impl.ErrBad)
			wantAggCode(t, small(), fair(), all, []impl.Agg{a, under(0, measured(impl.ASum, "none"))}, impl.ErrBad)
		}
	}
	wantAggCode(t, small(), fair(), all, []impl.Agg{{}}, impl.ErrBad)
}

// What a kind does not name is zero, also where all that it names is right.
func TestAggsOfWhatIsNotNamed(t *testing.T) {
	all := queryOf(t, "*")
	for kind := 1; kind <= 9; kind++ {
		want := func(a impl.Agg) {
			t.Helper()
			wantAggCode(t, small(), fair(), all, []impl.Agg{a}, impl.ErrBad)
			if kind != impl.AFilter { // and ahead of what is wrong with its field
				a.Field = "none"
				wantAggCode(t, small(), fair(), all, []impl.Agg{a}, impl.ErrBad)
				a.Field = "t"
				wantAggCode(t, small(), fair(), all, []impl.Agg{a}, impl.ErrBad)
			}
		}
		a := rightAgg(t, kind)
		if kind > 2 && kind < 9 {
			for _, size := range []int{math.MinInt, -1, 1, 5, 100, math.MaxInt} {
				a.Size = size
				want(a)
			}
		}
		if kind != impl.ARange {
			for _, bounds := range [][]int{{0}, {1, 2}, {2, 1}, make([]int, 17)} {
				a = rightAgg(t, kind)
				a.Bounds = bounds
				want(a)
			}
		}
		if kind != impl.AFilter {
			for _, q := range []impl.Query{all, queryOf(t, "cat dog"), {Nodes: make([]impl.Node, 1)}, queryOf(t, "none:x")} {
				a = rightAgg(t, kind)
				a.Query = q
				want(a)
			}
			continue
		}
		for _, field := range []string{"n", "t", "w", "none", " ", "\xff"} {
			a = rightAgg(t, kind)
			a.Field = field
			want(a)
		}
	}
}

// Each kind on each field: only one of its kind will do.
func TestAggsOfWrongFields(t *testing.T) {
	for name, kind := range map[string]int{"body": 1, "grams": 1, "plain": 1, "tag": 2, "n": 3, "year": 3, "none": 0, "N": 0, "tags": 0, "ta": 0, "n ": 0, "\xff": 0, "": 0, strings.Repeat("n", 1<<17): 0} {
		for _, a := range []impl.Agg{perTerm(name, 9), perStep(name, 9), perRange(name, 1, 9), measured(impl.ASum, name), measured(impl.AMin, name), measured(impl.AMax, name), measured(impl.ADistinct, name), part(name, 50)} {
			code := impl.ErrKind
			switch {
			case kind == 0:
				code = impl.ErrField
			case kind == impl.KNumber && a.Kind != impl.ATerms, kind == impl.KWord && (a.Kind == impl.ATerms || a.Kind == impl.ADistinct):
				code = impl.OK
			}
			wantAggCode(t, scene(), sceneDocs(), queryOf(t, "*"), []impl.Agg{a}, code)
			wantAggCode(t, scene(), sceneDocs(), queryOf(t, "*"), []impl.Agg{perTerm("tag", 2), under(0, a), under(0, measured(impl.ASum, "n"))}, code)
		}
	}
}

// Of two faulty ones the first counts, whatever the codes are.
func TestAggsOfTwoFaultyOnes(t *testing.T) {
	faulty := []struct {
		a    impl.Agg
		code int
	}{
		{measured(0, "n"), impl.ErrBad}, {perTerm("w", 0), impl.ErrBad}, {measured(impl.ASum, "none"), impl.ErrField}, {perTerm("n", 1), impl.ErrKind}, {filtered(impl.Query{}), impl.ErrBad}, {filtered(queryOf(t, "none:x")), impl.ErrField}, {under(-2, measured(impl.ASum, "w")), impl.ErrBad}, {perStep("t", 1), impl.ErrKind},
	}
	for _, first := range faulty {
		for _, second := range faulty {
			for _, list := range [][]impl.Agg{{first.a, second.a}, {perTerm("w", 2), first.a, second.a}, {first.a, measured(impl.ASum, "n"), second.a}, {filtered(queryOf(t, "*")), measured(impl.ASum, "n"), first.a, perStep("n", 2), second.a}} {
				wantAggCode(t, small(), fair(), queryOf(t, "*"), list, first.code)
			}
		}
	}
}

func TestAggsOfWrongFilters(t *testing.T) {
	all := queryOf(t, "*")
	for _, q := range sampleQueries() {
		wantSameBuckets(t, scene(), sceneDocs(), all, []impl.Agg{filtered(q), under(0, measured(impl.ADistinct, "tag"))})
		wantAggCode(t, scene(), sceneDocs(), all, []impl.Agg{filtered(q)}, meaningCode(scene(), nil, q))
	}
	for _, b := range []branch{group(), leaf(impl.Node{Kind: 9}), leaf(impl.Node{}), termLeaf(""), allLeaf().with(must), allLeaf().boosted(100), nested(9, allLeaf()), leaf(impl.Node{Kind: impl.QRange})} {
		wantAggCode(t, scene(), sceneDocs(), all, []impl.Agg{filtered(b.query())}, impl.ErrBad)
		wantAggCode(t, scene(), sceneDocs(), all, []impl.Agg{perTerm("tag", 3), under(0, filtered(b.query()))}, impl.ErrBad)
	}
	for _, text := range []string{"none:x", "cat none:[1 2]", "-none:x*", "(cat (+none:x~1)) *"} {
		wantAggCode(t, scene(), sceneDocs(), all, []impl.Agg{filtered(queryOf(t, text))}, impl.ErrField)
		// One that is not valid has that code, whatever its fields are.
		q := queryOf(t, text)
		q.Nodes[0].Boost = 0
		wantAggCode(t, scene(), sceneDocs(), all, []impl.Agg{filtered(q)}, impl.ErrBad)
	}
}

// The codes of Meaning, also without an aggregation and with faulty ones.
func TestAggsOfWrongDocsAndQueries(t *testing.T) {
	schemas, lists, queries := meaningCases(t)
	codes := map[int]int{}
	for _, s := range schemas {
		for _, docs := range lists {
			for _, q := range append(queries, impl.Query{}) {
				_, code := impl.Meaning(s, docs, q)
				codes[code]++
				if code != impl.OK {
					for _, list := range [][]impl.Agg{nil, {perTerm("tag", 3)}, {{}}, make([]impl.Agg, 17)} {
						wantBuckets(t, s, docs, q, list, nil, code)
					}
					continue
				}
				wantSameBuckets(t, s, docs, q, nil)
				wantSameBuckets(t, s, docs, q, []impl.Agg{perTerm("tag", 3), under(0, measured(impl.AMax, "n")), measured(impl.AMin, "year")})
			}
		}
	}
	for _, code := range []int{impl.OK, impl.ErrBad, impl.ErrExists, impl.ErrField} {
		if codes[code] == 0 {
			t.Errorf("nothing has code %d", code)
		}
	}
	wantBuckets(t, small(), numbered(513), queryOf(t, "*"), make([]impl.Agg, 17), nil, impl.ErrMany)
	wantBuckets(t, impl.Schema{}, numbered(512), queryOf(t, "*"), nil, nil, impl.ErrBad)
}
