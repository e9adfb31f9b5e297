package tests

import (
	"math/rand"
	"reflect"
	"runtime"
	"slices"
	"strings"
	"sync"
	"testing"
	"time"

	"loop.example/g00018/impl"
)

// clusterCases are runs of which some operations have a code.
func clusterCases(t *testing.T) (schemas []impl.Schema, runs [][]impl.ClusterOp) {
	schemas, lists, asks := searchCases(t)
	for _, segs := range lists {
		var ops []impl.ClusterOp
		for i, docs := range segs {
			for _, d := range docs {
				ops = append(ops, places(d))
			}
			ops = append(ops, seeks(asks[i]), nodeDown(i%3), seeks(asks[len(ops)%len(asks)]))
			if len(docs) > 0 {
				ops = append(ops, takes(docs[0].Id), places(docs[len(docs)-1]), fetches(docs[0].Id), seeks(asks[(i+5)%len(asks)]), nodeUp(i%3), splitsAll())
			}
		}
		for _, a := range asks {
			ops = append(ops, seeks(a))
		}
		runs = append(runs, ops[:min(len(ops), 200)])
	}
	source := rand.New(rand.NewSource(94))
	for range 6 {
		ops, _ := randomCluster(source, setup(2, 3), impl.Search, 120)
		runs = append(runs, ops)
	}
	return schemas, append(runs, nil, make([]impl.ClusterOp, 201), []impl.ClusterOp{{Kind: 9}, {Kind: impl.CPut}, {Kind: impl.CGet}})
}

func TestClusterLeavesItsArguments(t *testing.T) {
	schemas, runs := clusterCases(t)
	for _, s := range schemas {
		for i, ops := range runs {
			s, ops := roomyCopy(s), roomyCopy(ops)
			wantS, wantOps := wholeCopy(s), wholeCopy(ops)
			impl.ClusterRun(s, setup(1+i%8, 3), ops)
			if !reflect.DeepEqual(wholeCopy(s), wantS) || !reflect.DeepEqual(wholeCopy(ops), wantOps) {
				t.Errorf("run %d wrote into an argument", i)
			}
		}
	}
}

func TestClusterAnswersNewMemory(t *testing.T) {
	schemas, runs := clusterCases(t)
	hits, keys := 0, 0
	for _, s := range schemas {
		for i, ops := range runs {
			s, ops := ownTexts(s), ownTexts(ops)
			list, code := impl.ClusterRun(s, setup(1+i%8, 3), ops)
			if code != impl.OK && len(list) > 0 {
				t.Errorf("%d answers with code %d", len(list), code)
			}
			wantOwnMemory(t, "ClusterRun", list, s, ops)
			for _, o := range list {
				hits += len(o.Result.Hits)
				for _, f := range o.Result.Hits {
					keys += len(f.Keys)
				}
			}
		}
	}
	if hits == 0 || keys == 0 {
		t.Error("nothing is told")
	}
}

// What is written into an answer, or into an argument behind the call, is not to
// be seen in the next one; nor are documents, Seqs and nodes of the run ahead.
func TestClusterKeepsNothing(t *testing.T) {
	c := setup(2, 3)
	ops, _ := randomCluster(rand.New(rand.NewSource(95)), c, impl.Search, 150)
	want := copyOf(mustCluster(t, scene(), c, ops))
	first := mustCluster(t, scene(), c, ops)
	for i := range first {
		for j := range first[i].Result.Hits {
			overwrite(first[i].Result.Hits[j].Keys, -1)
		}
		overwrite(first[i].Result.Hits, impl.Found{Id: "x"})
	}
	overwrite(first[:cap(first)], impl.ClusterObs{Code: 99})
	wantCluster(t, scene(), c, ops, want, impl.OK)
	own := copyOf(ops)
	kept := mustCluster(t, scene(), c, own)
	for i := range own {
		for _, v := range own[i].Doc.Values {
			overwrite(v.Texts, "written over")
			overwrite(v.Numbers, 77)
		}
		overwrite(own[i].Ask.Sort, impl.SortKey{})
		own[i] = impl.ClusterOp{}
	}
	if !slices.EqualFunc(kept, want, sameClusterObs) {
		t.Error("an answer changes with its argument")
	}
	wantCluster(t, scene(), c, ops, want, impl.OK)
	for range 2 {
		wantClusterTale(t, setup(1, 2), "=a c8", "?", "+a 0.1@0", "/", "+b 1.2@0", "d0", "d1", "? c14")
	}
}

// Arguments that are far too great have their codes at once.
func TestClusterEndsWithGreatArguments(t *testing.T) {
	wantCluster(t, small(), setup(8, 4), make([]impl.ClusterOp, 1<<20), nil, impl.ErrMany)
	wantCluster(t, impl.Schema{Fields: make([]impl.FieldDef, 1<<20)}, setup(8, 4), nil, nil, impl.ErrBad)
	great := impl.Ask{Query: impl.Query{Nodes: make([]impl.Node, 1<<20)}}
	wide := impl.Ask{Query: impl.Query{Nodes: []impl.Node{{Kind: impl.QBool, Boost: 1, Kids: make([]int, 1<<20)}}}}
	far := impl.Ask{Query: queryOf(t, "*"), Size: 9, Behind: true, Last: last(strings.Repeat("x", 1<<24), 1024)}
	long := strings.Repeat("x", 1<<24)
	wantCluster(t, small(), setup(8, 4), []impl.ClusterOp{
		places(docWith("a", textsIn("t", strings.Repeat("x ", 1<<22)))), places(docWith("a", make([]impl.Value, 1<<20)...)), places(docWith(long)), takes(long), fetches(long), seeks(great), seeks(wide), seeks(far), seeks(impl.Ask{Query: queryOf(t, "*"), Sort: make([]impl.SortKey, 1<<20)}),
	}, []impl.ClusterObs{{Code: impl.ErrBad}, {Code: impl.ErrBad}, {Code: impl.ErrBad}, {Code: impl.ErrBad}, {Code: impl.ErrBad}, {Code: impl.ErrBad}, {Code: impl.ErrBad}, {}, {Code: impl.ErrRange}}, impl.OK)
	wantRoute(t, long, 8, -1)
}

// Runs at the same time do not meet each other, nor does what their shards do at
// the same time.
func TestClustersAtOnce(t *testing.T) {
	source := rand.New(rand.NewSource(96))
	c := setup(4, 3)
	var runs [][]impl.ClusterOp
	var want [][]impl.ClusterObs
	for range 6 {
		ops, told := randomCluster(source, c, impl.Search, 120)
		runs, want = append(runs, ops), append(want, told)
	}
	var all sync.WaitGroup
	wrong := make([]int, 24)
	for i := range wrong {
		all.Go(func() {
			list, code := impl.ClusterRun(scene(), c, runs[i%6])
			wrong[i] = btoi(code != impl.OK || !slices.EqualFunc(list, want[i%6], sameClusterObs))
		})
	}
	all.Wait()
	if slices.Contains(wrong, 1) {
		t.Errorf("these runs tell something else: %v", wrong)
	}
}

// The same run tells the same each time, however its goroutines are laid out.
func TestClusterTellsTheSameEachTime(t *testing.T) {
	source := rand.New(rand.NewSource(97))
	ops, want := randomCluster(source, setup(8, 2), impl.Search, 150)
	defer runtime.GOMAXPROCS(runtime.GOMAXPROCS(0))
	for _, n := range []int{1, 2, 8} {
		runtime.GOMAXPROCS(n)
		for range 10 {
			wantCluster(t, scene(), setup(8, 2), ops, want, impl.OK)
		}
	}
}

// No goroutine is left when a run has answered, with a code or without.
func TestClusterLeavesNoGoroutine(t *testing.T) {
	before := runtime.NumGoroutine()
	ops := clusterOps(t, "+a +b ? d0 ? +c ? d1 ? u0 ? u1 ? / ? -zz d0 d1 ?")
	for range 200 {
		mustCluster(t, small(), setup(2, 2), ops)
		wantCluster(t, small(), setup(8, 4), nil, nil, impl.OK)
		wantCluster(t, small(), setup(8, 4), make([]impl.ClusterOp, 201), nil, impl.ErrMany)
		wantCluster(t, impl.Schema{}, setup(8, 4), ops, nil, impl.ErrBad)
	}
	// One that has told that it is done may take a moment to be gone.
	for range 100 {
		if runtime.NumGoroutine() <= before {
			return
		}
		time.Sleep(10 * time.Millisecond)
	}
	t.Errorf("%d goroutines, at first %d", runtime.NumGoroutine(), before)
}
