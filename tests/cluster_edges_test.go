package tests

import (
	"fmt"
	"math"
	"slices"
	"strings"
	"testing"

	"loop.example/g00018/impl"
)

func TestClusterLimitsOnShardsAndCopies(t *testing.T) {
	numbers := []int{math.MinInt, -1 << 32, -8, -1, 0, 1, 2, 3, 4, 5, 6, 7, 8, 9, 10, 16, 1 << 8, 1<<32 + 1, 1<<32 + 4, math.MaxInt}
	ops := clusterOps(t, "+a ? d0 u0 / =a")
	for _, shards := range numbers {
		for _, copies := range numbers {
			c := setup(shards, copies)
			if shards < 1 || shards > 8 || copies < 1 || copies > 4 {
				wantCluster(t, small(), c, ops, nil, impl.ErrBad)
				wantCluster(t, small(), c, nil, nil, impl.ErrBad)
				continue
			}
			wantSameCluster(t, small(), c, ops)
			wantCluster(t, small(), c, nil, nil, impl.OK)
		}
	}
	for _, c := range []impl.ClusterSetup{setup(1, 1), setup(impl.MaxShards, 1), setup(1, impl.MaxCopies), setup(impl.MaxShards, impl.MaxCopies)} {
		wantCluster(t, small(), c, []impl.ClusterOp{places(docWith("a"))}, []impl.ClusterObs{{Shard: routeOf("a", c.Shards), Seq: 1}}, impl.OK)
	}
	for _, c := range []impl.ClusterSetup{{}, setup(0, 1), setup(1, 0), setup(impl.MaxShards+1, 1), setup(1, impl.MaxCopies+1)} {
		wantCluster(t, small(), c, []impl.ClusterOp{places(docWith("a"))}, nil, impl.ErrBad)
	}
}

// As many operations as may be, and one more, of every kind.
func TestClusterLimitOnOperations(t *testing.T) {
	for _, op := range []impl.ClusterOp{places(docWith("a")), takes("a"), fetches("a"), seeks(impl.Ask{}), nodeDown(0), nodeUp(0), splitsAll(), {}, {Kind: 8}} {
		for _, n := range []int{0, 1, 199, 200} {
			ops := slices.Repeat([]impl.ClusterOp{op}, n)
			wantSameCluster(t, small(), setup(2, 2), ops)
			if list := mustCluster(t, small(), setup(2, 2), ops); len(list) != n {
				t.Errorf("%d answers of %d operations", len(list), n)
			}
		}
		for _, n := range []int{201, 202, 4096, 4097, 100000} {
			wantCluster(t, small(), setup(2, 2), slices.Repeat([]impl.ClusterOp{op}, n), nil, impl.ErrMany)
		}
	}
}

func TestClusterOfNoOperations(t *testing.T) {
	for _, c := range setups() {
		wantCluster(t, small(), c, nil, nil, impl.OK)
		wantCluster(t, scene(), c, []impl.ClusterOp{}, nil, impl.OK)
	}
}

// The first and the last node, and those below and above.
func TestClusterLimitOnNodes(t *testing.T) {
	for copies := 1; copies <= 4; copies++ {
		for _, node := range []int{math.MinInt, -1 << 32, -2, -1, 0, 1, 2, 3, 4, 5, 8, 1 << 8, 1 << 32, 1<<32 + 1, math.MaxInt} {
			want := impl.OK
			if node < 0 || node >= copies {
				want = impl.ErrRange
			}
			ops := []impl.ClusterOp{nodeUp(node), nodeDown(node), nodeDown(node), seeksAll(), nodeUp(node), nodeUp(node), seeksAll()}
			list := mustCluster(t, small(), setup(2, copies), ops)
			for i, o := range list {
				wantOp := impl.ClusterObs{Code: want}
				if i == 3 || i == 6 {
					wantOp = impl.ClusterObs{}
				}
				if i == 3 && want == impl.OK && copies == 1 {
					wantOp.Code = impl.ErrDown
				}
				if !sameClusterObs(o, wantOp) {
					t.Errorf("%d copies, node %d, operation %d: %s, want %s", copies, node, i, shortClusterObs(o), shortClusterObs(wantOp))
				}
			}
			wantSameCluster(t, small(), setup(2, copies), ops)
		}
	}
}

// As many shards as may be come of splits, and not one more.
func TestClusterLimitOnSplits(t *testing.T) {
	for shards := 1; shards <= 8; shards++ {
		for copies := 1; copies <= 4; copies++ {
			ops := slices.Repeat([]impl.ClusterOp{splitsAll()}, 5)
			ops = append(ops, clusterOps(t, "+a +b +c +d +e +f +g +h ? =a")...)
			list := mustCluster(t, small(), setup(shards, copies), ops)
			n := shards
			for i, o := range list[:5] {
				want := impl.OK
				if n > 4 {
					want = impl.ErrRange
				} else {
					n *= 2
				}
				if !sameClusterObs(o, impl.ClusterObs{Code: want}) {
					t.Errorf("%d shards, split %d: %s, want code %d", shards, i, shortClusterObs(o), want)
				}
			}
			if o := list[14]; o.Shard != routeOf("a", n) {
				t.Errorf("%d shards: %s, want shard %d", shards, shortClusterObs(o), routeOf("a", n))
			}
			wantSameCluster(t, small(), setup(shards, copies), ops)
		}
	}
	// None with a code has done anything.
	for i, o := range mustCluster(t, small(), setup(8, 1), clusterOps(t, "+a / / +a =a ?")) {
		if told := clusterText(o); told != []string{"4.1@0", "c12", "c12", "4.2@0", "4.2@0", "1 a:3"}[i] {
			t.Errorf("operation %d: %s", i, told)
		}
	}
}

// The most documents that may be put, over all shards, and all found.
func TestClusterOfManyDocuments(t *testing.T) {
	for _, c := range setups() {
		var ops []impl.ClusterOp
		for _, d := range numbered(197) {
			ops = append(ops, places(d))
		}
		all := seeks(impl.Ask{Query: allLeaf().query(), Size: 1000})
		ops = append(ops, all, splitsAll(), all)
		list := mustCluster(t, small(), c, ops)
		for _, o := range []impl.ClusterObs{list[197], list[199]} {
			if o.Result.Total != 197 || len(o.Result.Hits) != 197 || o.Result.Hits[0].Id != "d000" || o.Result.Hits[196].Id != "d196" {
				t.Errorf("%+v: %s", c, shortClusterObs(o))
			}
		}
		seqs := make([]int, c.Shards)
		for i, d := range numbered(197) {
			at := routeOf(d.Id, c.Shards)
			seqs[at]++
			if !sameClusterObs(list[i], impl.ClusterObs{Shard: at, Seq: seqs[at]}) {
				t.Errorf("%+v, %s: %s", c, d.Id, shortClusterObs(list[i]))
			}
		}
	}
	// All of them in one of the shards.
	var ops []impl.ClusterOp
	for i := 0; len(ops) < 199; i++ {
		if id := fmt.Sprint("d", i); routeOf(id, 8) == 3 {
			ops = append(ops, places(docWith(id)))
		}
	}
	ops = append(ops, seeks(impl.Ask{Query: allLeaf().query(), Size: 1000}))
	list := mustCluster(t, small(), setup(8, 2), ops)
	if o := list[198]; !sameClusterObs(o, impl.ClusterObs{Shard: 3, Seq: 199}) || list[199].Result.Total != 199 {
		t.Errorf("%s, %s", shortClusterObs(o), shortClusterObs(list[199]))
	}
}

// The greatest and the least ids and documents.
func TestClusterOfEdgeDocuments(t *testing.T) {
	long := strings.Repeat("~", impl.MaxName)
	for _, c := range []impl.ClusterSetup{setup(1, 1), setup(7, 3), setup(8, 4)} {
		told := fmt.Sprint(routeOf(long, c.Shards), ".1@0")
		wantClusterTale(t, c, "+"+long+" "+told, "="+long+" "+told, "="+long[1:]+" c8", "="+long+"~ c1", "-"+long+"~ c1", "+"+long+"~ c1", "-"+long[1:]+" c8", "? 1 "+long+":0", "-"+long+" "+fmt.Sprint(routeOf(long, c.Shards), ".2@0"), "?")
	}
	for _, id := range []string{"!", "~", "!~", strings.Repeat("!", 30)} {
		at := routeOf(id, 8)
		wantCluster(t, small(), setup(8, 1), []impl.ClusterOp{places(docWith(id)), fetches(id), takes(id), fetches(id)}, []impl.ClusterObs{{Shard: at, Seq: 1}, {Shard: at, Seq: 1}, {Shard: at, Seq: 2}, {Code: impl.ErrMissing}}, impl.OK)
	}
	var ops []impl.ClusterOp
	for more := -1; more <= 1; more++ {
		ops = append(ops, places(docWith("t", textsIn("t", strings.Repeat("x", impl.MaxBody+more)))), places(docWith("n", numbersIn("n", greatestNumber+more, -greatestNumber-more))), places(docWith("v", numbersIn("n", make([]int, impl.MaxValues+more)...))), places(docWith("w", textsIn("w", strings.Repeat("x", impl.MaxTerm+more)))), places(docWith(strings.Repeat("i", impl.MaxName+more))))
	}
	ops = append(ops, seeksAll())
	for shards := 1; shards <= 8; shards++ {
		wantSameCluster(t, small(), setup(shards, 2), ops)
		list := mustCluster(t, small(), setup(shards, 2), ops)
		for i, o := range list[:15] {
			if (o.Code == impl.ErrBad) != (i >= 10) {
				t.Errorf("%s: %s", shortClusterOp(ops[i]), shortClusterObs(o))
			}
		}
		if o := list[15]; o.Result.Total != 6 {
			t.Errorf("%s", shortClusterObs(o))
		}
	}
}

// Documents of the most words, asked over and over: what was gathered once need not
// be gathered again.
func TestClusterOfGreatSearches(t *testing.T) {
	var ops []impl.ClusterOp
	var docs []impl.Doc
	for i := range 60 {
		text := strings.Repeat(crowdedText(i), 4)
		docs = append(docs, docWith(fmt.Sprint("d", i), numbersIn("n", i%7), textsIn("t", text[:impl.MaxBody-i])))
		ops = append(ops, places(docs[i]))
	}
	for i := len(ops); i < 200; i++ {
		q := queryOf(t, fmt.Sprintf("k%d k%d* \"k%d k%d\"~9 cot~2", i, i%9, i, i+1))
		ops = append(ops, seeks(impl.Ask{Query: q, Size: 3, Sort: up("n")}))
	}
	for _, c := range []impl.ClusterSetup{setup(1, 1), setup(5, 2), setup(8, 4)} {
		list := mustCluster(t, small(), c, ops)
		for i := 60; i < 200; i += 20 {
			want := mustSearch(t, small(), oneSegment(docs), ops[i].Ask)
			if !sameResult(list[i].Result, want) || want.Total == 0 {
				t.Errorf("%+v, operation %d: %s, want %s", c, i, shortClusterObs(list[i]), shortResult(want))
			}
		}
	}
}

// A great document is put, and searched for, in turns.
func TestClusterOfGreatPutsAndSearches(t *testing.T) {
	var ops []impl.ClusterOp
	var docs []impl.Doc
	for i := range 100 {
		text := strings.Repeat(crowdedText(i), 4)
		docs = append(docs, docWith(fmt.Sprint("d", i), textsIn("t", text[:impl.MaxBody])))
		ops = append(ops, places(docs[i]), seeks(impl.Ask{Query: queryOf(t, fmt.Sprint("k", i)), Size: 3}))
	}
	list := mustCluster(t, small(), setup(4, 2), ops)
	for _, i := range []int{1, 51, 99} {
		want := mustSearch(t, small(), oneSegment(docs[:i+1]), ops[2*i+1].Ask)
		if !sameResult(list[2*i+1].Result, want) {
			t.Errorf("%d documents: %s, want %s", i+1, shortClusterObs(list[2*i+1]), shortResult(want))
		}
	}
}
