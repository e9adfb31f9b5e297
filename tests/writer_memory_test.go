package tests

import (
	"math/rand"
	"reflect"
	"runtime"
	"slices"
	"strings"
	"sync"
	"testing"
	"time"

	"loop.example/g00018/impl"
)

// runCases are runs of which some have a code.
func runCases(t *testing.T) (schemas []impl.Schema, runs [][]impl.IndexOp) {
	schemas, lists, asks := searchCases(t)
	for _, segs := range lists {
		var ops []impl.IndexOp
		for i, docs := range segs {
			for _, d := range docs {
				ops = append(ops, puts(d))
			}
			ops = append(ops, refreshes(), opens(), searches(i+1, asks[i]), searches(1, asks[len(ops)%len(asks)]))
			if len(docs) > 0 {
				ops = append(ops, removes(docs[0].Id), puts(docs[len(docs)-1]), getsVersion(docs[0].Id), searches(i+1, asks[(i+5)%len(asks)]))
			}
		}
		for i, a := range asks {
			ops = append(ops, searches(1+i%3, a))
		}
		runs = append(runs, ops[:min(len(ops), 200)])
	}
	source := rand.New(rand.NewSource(68))
	for range 6 {
		ops, _ := randomRun(source, impl.Search, 120)
		runs = append(runs, ops)
	}
	return schemas, append(runs, nil, make([]impl.IndexOp, 201), []impl.IndexOp{{Kind: 9}, {Kind: impl.WPut}, closes(3)})
}

func TestRunLeavesItsArguments(t *testing.T) {
	schemas, runs := runCases(t)
	for _, s := range schemas {
		for i, ops := range runs {
			s, ops := roomyCopy(s), roomyCopy(ops)
			wantS, wantOps := wholeCopy(s), wholeCopy(ops)
			impl.IndexRun(s, ops)
			if !reflect.DeepEqual(wholeCopy(s), wantS) || !reflect.DeepEqual(wholeCopy(ops), wantOps) {
				t.Errorf("run %d wrote into an argument", i)
			}
		}
	}
}

func TestRunAnswersNewMemory(t *testing.T) {
	schemas, runs := runCases(t)
	hits, keys := 0, 0
	for _, s := range schemas {
		for _, ops := range runs {
			s, ops := ownTexts(s), ownTexts(ops)
			list, code := impl.IndexRun(s, ops)
			if code != impl.OK && len(list) > 0 {
				t.Errorf("%d answers with code %d", len(list), code)
			}
			wantOwnMemory(t, "IndexRun", list, s, ops)
			for _, o := range list {
				hits += len(o.Result.Hits)
				for _, f := range o.Result.Hits {
					keys += len(f.Keys)
				}
			}
		}
	}
	if hits == 0 || keys == 0 {
		t.Error("nothing is told")
	}
}

// What is written into an answer, or into an argument behind the call, is not to
// be seen in the next one; nor are documents, versions and readers of the run ahead.
func TestRunKeepsNothing(t *testing.T) {
	ops, _ := randomRun(rand.New(rand.NewSource(69)), impl.Search, 150)
	want := copyOf(mustRun(t, scene(), ops))
	first := mustRun(t, scene(), ops)
	for i := range first {
		for j := range first[i].Result.Hits {
			overwrite(first[i].Result.Hits[j].Keys, -1)
		}
		overwrite(first[i].Result.Hits, impl.Found{Id: "x"})
	}
	overwrite(first[:cap(first)], impl.IndexObs{Code: 99})
	wantRun(t, scene(), ops, want, impl.OK)
	own := copyOf(ops)
	kept := mustRun(t, scene(), own)
	for i := range own {
		for _, v := range own[i].Doc.Values {
			overwrite(v.Texts, "written over")
			overwrite(v.Numbers, 77)
		}
		overwrite(own[i].Ask.Sort, impl.SortKey{})
		own[i] = impl.IndexOp{}
	}
	if !slices.EqualFunc(kept, want, sameObs) {
		t.Error("an answer changes with its argument")
	}
	wantRun(t, scene(), ops, want, impl.OK)
	wantTale(t, "o r1 0/0", "?1 0/0", "=a c8 0/0", "+a v1 1/0")
	wantTale(t, "o r1 0/0", "?1 0/0", "=a c8 0/0", "+a v1 1/0")
}

// Arguments that are far too great have their codes at once.
func TestRunEndsWithGreatArguments(t *testing.T) {
	wantRun(t, small(), make([]impl.IndexOp, 1<<20), nil, impl.ErrMany)
	wantRun(t, impl.Schema{Fields: make([]impl.FieldDef, 1<<20)}, nil, nil, impl.ErrBad)
	great := impl.Ask{Query: impl.Query{Nodes: make([]impl.Node, 1<<20)}}
	wide := impl.Ask{Query: impl.Query{Nodes: []impl.Node{{Kind: impl.QBool, Boost: 1, Kids: make([]int, 1<<20)}}}}
	far := impl.Ask{Query: queryOf(t, "*"), Size: 9, Behind: true, Last: last(strings.Repeat("x", 1<<24), 1024)}
	wantRun(t, small(), []impl.IndexOp{
		puts(docWith("a", textsIn("t", strings.Repeat("x ", 1<<22)))), puts(docWith("a", make([]impl.Value, 1<<20)...)), puts(docWith(strings.Repeat("x", 1<<24))), removes(strings.Repeat("x", 1<<24)), opens(), searches(1, great), searches(1, wide), searches(1, far), searches(1, impl.Ask{Query: queryOf(t, "*"), Sort: make([]impl.SortKey, 1<<20)}),
	}, []impl.IndexObs{{Code: impl.ErrBad}, {Code: impl.ErrBad}, {Code: impl.ErrBad}, {Code: impl.ErrMissing}, {Reader: 1}, {Code: impl.ErrBad}, {Code: impl.ErrBad}, {}, {Code: impl.ErrRange}}, impl.OK)
}

// Runs at the same time do not meet each other.
func TestRunsAtOnce(t *testing.T) {
	source := rand.New(rand.NewSource(70))
	var runs [][]impl.IndexOp
	var want [][]impl.IndexObs
	for range 6 {
		ops, told := randomRun(source, impl.Search, 120)
		runs, want = append(runs, ops), append(want, told)
	}
	var all sync.WaitGroup
	wrong := make([]int, 24)
	for i := range wrong {
		all.Go(func() {
			list, code := impl.IndexRun(scene(), runs[i%6])
			wrong[i] = btoi(code != impl.OK || !slices.EqualFunc(list, want[i%6], sameObs))
		})
	}
	all.Wait()
	if slices.Contains(wrong, 1) {
		t.Errorf("these runs tell something else: %v", wrong)
	}
}

// No goroutine is left when a run has answered, with a code or without.
func TestRunLeavesNoGoroutine(t *testing.T) {
	before := runtime.NumGoroutine()
	ops := opsOf(t, "+a +b ! o ?1 -a ! o ?2 ?1 x1 ?1 -zz")
	for range 200 {
		mustRun(t, small(), ops)
		wantRun(t, small(), nil, nil, impl.OK)
		wantRun(t, small(), make([]impl.IndexOp, 201), nil, impl.ErrMany)
		wantRun(t, impl.Schema{}, ops, nil, impl.ErrBad)
	}
	// One that has told that it is done may take a moment to be gone.
	for range 100 {
		if runtime.NumGoroutine() <= before {
			return
		}
		time.Sleep(10 * time.Millisecond)
	}
	t.Errorf("%d goroutines, at first %d", runtime.NumGoroutine(), before)
}
