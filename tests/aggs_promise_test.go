package tests

import (
	"fmt"
	"math/rand"
	"slices"
	"testing"

	"loop.example/g00018/impl"
)

// sums puts answers together: of each bucket, told by its name and those above it,
// the Counts of all of them, and the Values of those that have sums.
func sums(list []impl.Agg, answers ...[]impl.Bucket) map[string][2]int {
	total := map[string][2]int{}
	for _, buckets := range answers {
		names := make([]string, len(buckets))
		for i, b := range buckets {
			names[i] = fmt.Sprintf("/%d %q %d", b.Agg, b.Key, b.From)
			if b.Parent >= 0 {
				names[i] = names[b.Parent] + names[i]
			}
			sum := total[names[i]]
			sum[0] += b.Count
			if list[b.Agg].Kind == impl.ASum {
				sum[1] += b.Value
			}
			total[names[i]] = sum
		}
	}
	return total
}

func sameSums(a, b map[string][2]int) bool {
	// What counts nothing need not be told at all.
	for name, sum := range a {
		if b[name] != sum {
			return false
		}
	}
	for name, sum := range b {
		if a[name] != sum {
			return false
		}
	}
	return true
}

// bothAsked tells a query of what two match, the second with this role.
func bothAsked(q, f impl.Query, role int) impl.Query {
	nodes := []impl.Node{{Kind: impl.QBool, Boost: 1, Kids: []int{1, 1 + len(q.Nodes)}}}
	for i, part := range []impl.Query{q, f} {
		shift := len(nodes)
		for at, n := range part.Nodes {
			n.Kids = slices.Clone(n.Kids)
			for k := range n.Kids {
				n.Kids[k] += shift
			}
			if at == 0 {
				n.Role = []int{impl.RoleMust, role}[i]
			}
			nodes = append(nodes, n)
		}
	}
	return impl.Query{Nodes: nodes}
}

// additive leaves what adds up over documents: ATerms tells all texts.
func additive(list []impl.Agg) []impl.Agg {
	for i := range list {
		if list[i].Kind == impl.ATerms {
			list[i].Size = 1000
		}
		if list[i].Kind > impl.ASum {
			list[i] = impl.Agg{Parent: list[i].Parent, Kind: impl.ASum, Field: "n"}
		}
	}
	return list
}

// Those that a filter matches, and those that it doesn't, add up to all: by the
// query asked, and by filters side by side and above.
func TestAggsOfDisjointFiltersAddUp(t *testing.T) {
	source := rand.New(rand.NewSource(33))
	parted := 0
	for range 150 {
		docs := stockDocs(source, source.Intn(25))
		list := additive(randomAggs(source, 6))
		q, f := randomSceneBranch(source, 2).query(), randomSceneBranch(source, 2).query()
		if source.Intn(2) == 0 {
			q = queryOf(t, "*")
		}
		whole := mustAggregate(t, scene(), docs, q, list...)
		with := mustAggregate(t, scene(), docs, bothAsked(q, f, impl.RoleMust), list...)
		without := mustAggregate(t, scene(), docs, bothAsked(q, f, impl.RoleNot), list...)
		if !sameSums(sums(list, whole), sums(list, with, without)) {
			t.Errorf("%s of %s, with and without %s: %s; %s; %s", shortAggs(list), textOf(q), textOf(f), shortBuckets(whole), shortBuckets(with), shortBuckets(without))
		}
		parted += btoi(len(with) > 0 && len(without) > 0 && !slices.Equal(with, without))
		// The same two as filters above: their answers are those of the queries.
		for _, c := range []struct {
			role int
			want []impl.Bucket
		}{{impl.RoleMust, with}, {impl.RoleNot, without}} {
			lower := []impl.Agg{filtered(bothAsked(queryOf(t, "*"), f, c.role))}
			for _, a := range list {
				a.Parent++
				lower = append(lower, a)
			}
			got := mustAggregate(t, scene(), docs, q, lower...)[1:]
			for i := range got {
				got[i].Agg--
				got[i].Parent--
			}
			if !slices.Equal(got, c.want) {
				t.Errorf("under a filter: %s, want %s", shortBuckets(got), shortBuckets(c.want))
			}
		}
	}
	if parted < 50 {
		t.Errorf("only %d times both have something", parted)
	}
}

// Each document alone, put together, tells what all of them tell.
func TestAggsAreSumsOverDocuments(t *testing.T) {
	source := rand.New(rand.NewSource(34))
	for range 100 {
		docs := stockDocs(source, source.Intn(20))
		list := additive(randomAggs(source, 6))
		q := randomSceneBranch(source, 2).query()
		var alone [][]impl.Bucket
		for i := range docs {
			alone = append(alone, mustAggregate(t, scene(), docs[i:i+1], q, list...))
		}
		whole := mustAggregate(t, scene(), docs, q, list...)
		if !sameSums(sums(list, whole), sums(list, alone...)) {
			t.Errorf("%s of %s: %s, alone %s", shortAggs(list), textOf(q), shortBuckets(whole), cutOff(shortBuckets(slices.Concat(alone...))))
		}
	}
}

// The order of the documents is not to be seen.
func TestAggsOfDocumentsInAnyOrder(t *testing.T) {
	source := rand.New(rand.NewSource(35))
	for range 60 {
		docs := stockDocs(source, source.Intn(20))
		list := randomAggs(source, 8)
		q := randomSceneBranch(source, 2).query()
		want := mustAggregate(t, scene(), docs, q, list...)
		for range 4 {
			wantBuckets(t, scene(), slices.Concat(randomCut(source, docs)...), q, list, want, impl.OK)
		}
	}
}

// atMostOne leaves of the numbers of each field the first one.
func atMostOne(docs []impl.Doc) []impl.Doc {
	for _, d := range docs {
		for i, v := range d.Values {
			if len(v.Numbers) > 0 {
				d.Values[i].Numbers = v.Numbers[:1]
			}
		}
	}
	return docs
}

// Where a document has at most one number, ranges and steps that have them all
// add up to all that have one.
func TestAggsOfRangesAndStepsAddUp(t *testing.T) {
	source := rand.New(rand.NewSource(36))
	for range 100 {
		docs := atMostOne(stockDocs(source, source.Intn(25)))
		q := randomSceneBranch(source, 2).query()
		whole := mustAggregate(t, scene(), docs, q, measured(impl.ASum, "n"), measured(impl.ADistinct, "n"))
		if whole[0].Count != whole[1].Count {
			t.Errorf("%s: %s", textOf(q), shortBuckets(whole))
		}
		for _, a := range []impl.Agg{perStep("n", 1+source.Intn(5)), perRange("n", -9, -1, 0, 2, 9), perRange("n", -2, 3), perStep("n", 1000000000)} {
			count, numbers, sum := 0, 0, 0
			for _, b := range mustAggregate(t, scene(), docs, q, a, under(0, measured(impl.ASum, "n"))) {
				if b.Agg == 0 {
					count += b.Count
				} else {
					numbers += b.Count
					sum += b.Value
				}
			}
			if count != whole[0].Count || numbers != count || sum != whole[0].Value {
				t.Errorf("%s with %s: %d documents, %d numbers, sum %d, want those of %v", textOf(q), shortAggs([]impl.Agg{a}), count, numbers, sum, whole[0])
			}
		}
	}
}

// The least and the greatest of all are those of the parts, and every part lies
// between them; the parts rise.
func TestAggsOfPartsRise(t *testing.T) {
	source := rand.New(rand.NewSource(37))
	for range 60 {
		docs := stockDocs(source, 1+source.Intn(20))
		q := queryOf(t, []string{"*", "cat", "tag:red"}[source.Intn(3)])
		list := []impl.Agg{measured(impl.AMin, "n"), measured(impl.AMax, "n")}
		for range 12 {
			list = append(list, part("n", source.Intn(101)))
		}
		slices.SortStableFunc(list[2:], func(a, b impl.Agg) int { return a.Size - b.Size })
		list = append(list, part("n", 0), part("n", 100))
		b := mustAggregate(t, scene(), docs, q, list...)
		if b[14].Value != b[0].Value || b[15].Value != b[1].Value {
			t.Errorf("%s", shortBuckets(b))
		}
		for i := 2; i < 14; i++ {
			if b[i].Value < b[0].Value || b[i].Value > b[1].Value || i > 2 && b[i].Value < b[i-1].Value || b[i].Count != b[0].Count {
				t.Errorf("part %d of %s: %+v, from %+v to %+v", list[i].Size, textOf(q), b[i], b[0], b[1])
			}
		}
	}
}
