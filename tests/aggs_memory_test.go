package tests

import (
	"reflect"
	"strings"
	"testing"

	"loop.example/g00018/impl"
)

// aggsCases are lists of which some have a code.
func aggsCases(t *testing.T) [][]impl.Agg {
	return [][]impl.Agg{
		nil, {}, {{}}, make([]impl.Agg, 17),
		{perTerm("tag", 3), under(0, perStep("n", 3)), under(0, perTerm("tag", 2)), perTerm("tag", 9), perRange("n", -5, 0, 7), under(4, perTerm("tag", 5)), filtered(queryOf(t, "cat tag:red")), under(6, perTerm("tag", 9)), measured(impl.ASum, "n"), measured(impl.ADistinct, "tag"), part("n", 50), part("year", 99), measured(impl.AMin, "year")},
		{perTerm("w", 3), under(0, part("n", 30)), under(0, perRange("n", 0, 1))},
		{perRange("n", 3, 2)}, {filtered(queryOf(t, "none:x"))}, {perTerm("body", 2)},
	}
}

func TestAggsLeaveTheirArguments(t *testing.T) {
	schemas, lists, queries := meaningCases(t)
	for _, s := range schemas {
		for _, docs := range lists {
			for _, q := range queries {
				for _, list := range aggsCases(t) {
					s, docs, q, list := roomyCopy(s), roomyCopy(docs), roomyCopy(q), roomyCopy(list)
					wantS, wantDocs, wantQ, wantList := wholeCopy(s), wholeCopy(docs), wholeCopy(q), wholeCopy(list)
					impl.Aggregate(s, docs, q, list)
					if !reflect.DeepEqual(wholeCopy(s), wantS) || !reflect.DeepEqual(wholeCopy(docs), wantDocs) || !reflect.DeepEqual(wholeCopy(q), wantQ) || !reflect.DeepEqual(wholeCopy(list), wantList) {
						t.Errorf("Aggregate of %s with %s wrote into an argument", textOf(q), shortAggs(list))
					}
				}
			}
		}
	}
}

func TestAggsAnswerNewMemory(t *testing.T) {
	schemas, lists, queries := meaningCases(t)
	keys := 0
	for _, s := range schemas {
		for _, docs := range lists {
			docs = copyOf(docs)
			for _, d := range docs {
				for _, v := range d.Values {
					for i := range v.Texts {
						v.Texts[i] = strings.Clone(v.Texts[i])
					}
				}
			}
			for _, q := range queries {
				for _, list := range aggsCases(t) {
					buckets, code := impl.Aggregate(s, docs, q, list)
					if code != impl.OK && len(buckets) > 0 {
						t.Errorf("Aggregate of %s with %s: %s with code %d", textOf(q), shortAggs(list), shortBuckets(buckets), code)
					}
					wantOwnMemory(t, "Aggregate", buckets, s, docs, q, list)
					for _, b := range buckets {
						keys += len(b.Key)
					}
				}
			}
		}
	}
	if keys == 0 {
		t.Error("no key is told")
	}
}

// What is written into an answer, or into an argument behind the call, is not to
// be seen in the next one.
func TestAggsKeepNothing(t *testing.T) {
	list := aggsCases(t)[4]
	all := queryOf(t, "*")
	want, code := bucketsOf(scene(), sceneDocs(), all, list)
	docs, asked := sceneDocs(), copyOf(list)
	first := mustAggregate(t, scene(), docs, all, asked...)
	for i := range first {
		first[i] = impl.Bucket{}
	}
	wantBuckets(t, scene(), docs, all, asked, want, code)
	kept := mustAggregate(t, scene(), docs, all, asked...)
	for i := range docs {
		docs[i] = impl.Doc{}
	}
	for i := range asked {
		asked[i] = impl.Agg{}
	}
	if !reflect.DeepEqual(kept, want) {
		t.Errorf("%s, want %s", shortBuckets(kept), shortBuckets(want))
	}
	wantBuckets(t, scene(), sceneDocs(), all, list, want, code)
}

// Arguments that are far too great have their codes at once.
func TestAggsEndWithGreatArguments(t *testing.T) {
	all := queryOf(t, "*")
	wantBuckets(t, small(), make([]impl.Doc, 1<<20), all, nil, nil, impl.ErrMany)
	wantBuckets(t, small(), fair(), all, make([]impl.Agg, 1<<20), nil, impl.ErrRange)
	wantBuckets(t, small(), fair(), impl.Query{Nodes: make([]impl.Node, 1<<20)}, nil, nil, impl.ErrBad)
	wantBuckets(t, small(), fair(), all, []impl.Agg{perRange("n", make([]int, 1<<22)...)}, nil, impl.ErrBad)
	wantBuckets(t, small(), fair(), all, []impl.Agg{filtered(impl.Query{Nodes: make([]impl.Node, 1<<20)})}, nil, impl.ErrBad)
	wantBuckets(t, small(), fair(), all, []impl.Agg{measured(impl.ASum, strings.Repeat("n", 1<<24))}, nil, impl.ErrField)
	wantBuckets(t, impl.Schema{Fields: make([]impl.FieldDef, 1<<20)}, nil, all, nil, nil, impl.ErrBad)
}

// Sixteen filters of the most nodes on great documents: it ends, and each tells as
// many as Meaning.
func TestAggsOfGreatFilters(t *testing.T) {
	docs := numbered(100)
	for i := range docs {
		docs[i].Values = []impl.Value{numbersIn("n", i%7), textsIn("t", crowdedText(i))}
	}
	var list []impl.Agg
	var want []impl.Bucket
	for i := range 16 {
		b := group()
		for at := range 63 {
			text := "k" + string(rune('0'+at%10)) + string(rune('0'+i%10))
			kids := []branch{termLeaf(text), leaf(impl.Node{Kind: impl.QPrefix, Text: text}), leaf(impl.Node{Kind: impl.QPhrase, Text: text + " k1", Slop: 20})}
			b.below = append(b.below, kids[at%3])
		}
		b = b.atLeast(30)
		list = append(list, filtered(b.query()))
		hits, code := impl.Meaning(small(), docs, b.query())
		if code != impl.OK {
			t.Fatalf("code %d", code)
		}
		want = append(want, impl.Bucket{Agg: i, Parent: -1, Count: len(hits)})
	}
	wantBuckets(t, small(), docs, queryOf(t, "*"), list, want, impl.OK)
}
