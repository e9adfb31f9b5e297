package tests

import (
	"bytes"
	"math/rand"
	"reflect"
	"slices"
	"strings"
	"sync"
	"testing"

	"loop.example/g00018/impl"
)

// recordCases are records of which some have a code.
func recordCases() []impl.Record {
	list := append(sampleLog(), impl.Record{}, deleteRecord(0, "a"), deleteRecord(1, ""), impl.Record{Kind: 3, Seq: 1, Id: "a"}, impl.Record{Kind: 1, Seq: 1, Id: "a", Doc: book()}, impl.Record{Kind: 2, Seq: 1, Id: "a", Doc: book()})
	for _, d := range append(sampleDocs(), wrongDocs()...) {
		list = append(list, putRecord(1, d))
	}
	return list
}

// logCases are logs that are read whole, in part, and not at all.
func logCases(t *testing.T) [][]byte {
	b, places := logBytes(t, sampleLog())
	list := [][]byte{nil, {}, {0}, b, b[places[1]:], append(slices.Clone(b), 1, 2, 3), make([]byte, impl.MaxBytes+1)}
	for _, place := range places {
		list = append(list, b[:place], b[:place+5])
	}
	return list
}

func TestRecordsAndLogsLeaveTheirArguments(t *testing.T) {
	for _, r := range recordCases() {
		r := roomyCopy(r)
		want := wholeCopy(r)
		impl.RecordBytes(r)
		if !reflect.DeepEqual(wholeCopy(r), want) {
			t.Errorf("RecordBytes wrote into %s", shortRecord(r))
		}
	}
	for _, b := range logCases(t) {
		b := withRoom(b, 77)
		want := slices.Clone(wholeList(b))
		impl.ReadLog(b)
		if !bytes.Equal(wholeList(b), want) {
			t.Errorf("ReadLog wrote into %s", shortBytes(b))
		}
	}
}

func TestRecordsAndLogsAnswerNewMemory(t *testing.T) {
	for _, r := range recordCases() {
		r := ownTexts(r)
		b, code := impl.RecordBytes(r)
		if code != impl.OK && len(b) > 0 {
			t.Errorf("%d bytes with code %d", len(b), code)
		}
		wantOwnMemory(t, "RecordBytes", b, r)
		again := mustBytes(impl.RecordBytes(r))
		overwrite(b[:cap(b)], 0)
		if !bytes.Equal(mustBytes(impl.RecordBytes(r)), again) {
			t.Errorf("RecordBytes of %s changes with its answer", shortRecord(r))
		}
	}
	for _, b := range logCases(t) {
		b := slices.Clone(b)
		list, size, code := impl.ReadLog(b)
		if code != impl.OK && (len(list) > 0 || size != 0) {
			t.Errorf("%d records of %d bytes with code %d", len(list), size, code)
		}
		wantOwnMemory(t, "ReadLog", list, b)
		want := copyOf(list)
		overwrite(b, 255)
		if !slices.EqualFunc(list, want, sameRecord) {
			t.Error("what ReadLog told changes with its argument")
		}
	}
}

func mustBytes(b []byte, _ int) []byte { return b }

// storeCases are runs of which some operations have a code.
func storeCases(t *testing.T) (schemas []impl.Schema, runs [][]impl.StoreOp) {
	schemas, lists, asks := searchCases(t)
	for _, segs := range lists {
		var ops []impl.StoreOp
		for i, docs := range segs {
			for _, d := range docs {
				ops = append(ops, keeps(d))
			}
			ops = append(ops, finds(asks[i]), syncs(), finds(asks[len(ops)%len(asks)]))
			if len(docs) > 0 {
				ops = append(ops, drops(docs[0].Id), keeps(docs[len(docs)-1]), finds(asks[(i+5)%len(asks)]), crashesAt(50+i, i), drops(docs[0].Id), recovers())
			}
		}
		for _, a := range asks {
			ops = append(ops, finds(a))
		}
		runs = append(runs, ops[:min(len(ops), 200)])
	}
	source := rand.New(rand.NewSource(81))
	for range 6 {
		ops, _ := randomStore(source, impl.Search, 120)
		runs = append(runs, ops)
	}
	return schemas, append(runs, nil, make([]impl.StoreOp, 201), []impl.StoreOp{{Kind: 9}, {Kind: impl.SPut}, recovers()})
}

func TestStoreLeavesItsArguments(t *testing.T) {
	schemas, runs := storeCases(t)
	for _, s := range schemas {
		for i, ops := range runs {
			s, ops := roomyCopy(s), roomyCopy(ops)
			wantS, wantOps := wholeCopy(s), wholeCopy(ops)
			impl.StoreRun(s, ops)
			if !reflect.DeepEqual(wholeCopy(s), wantS) || !reflect.DeepEqual(wholeCopy(ops), wantOps) {
				t.Errorf("run %d wrote into an argument", i)
			}
		}
	}
}

func TestStoreAnswersNewMemory(t *testing.T) {
	schemas, runs := storeCases(t)
	hits, keys := 0, 0
	for _, s := range schemas {
		for _, ops := range runs {
			s, ops := ownTexts(s), ownTexts(ops)
			list, code := impl.StoreRun(s, ops)
			if code != impl.OK && len(list) > 0 {
				t.Errorf("%d answers with code %d", len(list), code)
			}
			wantOwnMemory(t, "StoreRun", list, s, ops)
			for _, o := range list {
				hits += len(o.Result.Hits)
				for _, f := range o.Result.Hits {
					keys += len(f.Keys)
				}
			}
		}
	}
	if hits == 0 || keys == 0 {
		t.Error("nothing is told")
	}
}

// What is written into an answer, or into an argument behind the call, is not to
// be seen in the next one; nor are documents and the log of the run ahead.
func TestStoreKeepsNothing(t *testing.T) {
	ops, _ := randomStore(rand.New(rand.NewSource(82)), impl.Search, 150)
	want := copyOf(mustStore(t, scene(), ops))
	first := mustStore(t, scene(), ops)
	for i := range first {
		for j := range first[i].Result.Hits {
			overwrite(first[i].Result.Hits[j].Keys, -1)
		}
		overwrite(first[i].Result.Hits, impl.Found{Id: "x"})
	}
	overwrite(first[:cap(first)], impl.StoreObs{Code: 99})
	wantStore(t, scene(), ops, want, impl.OK)
	own := copyOf(ops)
	kept := mustStore(t, scene(), own)
	for i := range own {
		for _, v := range own[i].Doc.Values {
			overwrite(v.Texts, "written over")
			overwrite(v.Numbers, 77)
		}
		overwrite(own[i].Ask.Sort, impl.SortKey{})
		own[i] = impl.StoreOp{}
	}
	if !slices.EqualFunc(kept, want, sameStoreObs) {
		t.Error("an answer changes with its argument")
	}
	wantStore(t, scene(), ops, want, impl.OK)
	for range 2 {
		wantStoreTale(t, "? 0 0/0 0", "-a c8 0 0/0 0", "r c1 0 0/0 0", "+a 1 15/0 1", "s 1 15/15 1", "!0 0 0/0 0")
	}
}

// Arguments that are far too great have their codes at once.
func TestStoreEndsWithGreatArguments(t *testing.T) {
	wantStore(t, small(), make([]impl.StoreOp, 1<<20), nil, impl.ErrMany)
	wantStore(t, impl.Schema{Fields: make([]impl.FieldDef, 1<<20)}, nil, nil, impl.ErrBad)
	great := impl.Ask{Query: impl.Query{Nodes: make([]impl.Node, 1<<20)}}
	wide := impl.Ask{Query: impl.Query{Nodes: []impl.Node{{Kind: impl.QBool, Boost: 1, Kids: make([]int, 1<<20)}}}}
	far := impl.Ask{Query: queryOf(t, "*"), Size: 9, Behind: true, Last: last(strings.Repeat("x", 1<<24), 1024)}
	wantStore(t, small(), []impl.StoreOp{
		keeps(docWith("a", textsIn("t", strings.Repeat("x ", 1<<22)))), keeps(docWith("a", make([]impl.Value, 1<<20)...)), keeps(docWith(strings.Repeat("x", 1<<24))), drops(strings.Repeat("x", 1<<24)), finds(great), finds(wide), finds(far), finds(impl.Ask{Query: queryOf(t, "*"), Sort: make([]impl.SortKey, 1<<20)}),
	}, []impl.StoreObs{{Code: impl.ErrBad}, {Code: impl.ErrBad}, {Code: impl.ErrBad}, {Code: impl.ErrMissing}, {Code: impl.ErrBad}, {Code: impl.ErrBad}, {}, {Code: impl.ErrRange}}, impl.OK)
}

// Runs at the same time do not meet each other.
func TestStoresAtOnce(t *testing.T) {
	source := rand.New(rand.NewSource(83))
	var runs [][]impl.StoreOp
	var want [][]impl.StoreObs
	for range 6 {
		ops, told := randomStore(source, impl.Search, 120)
		runs, want = append(runs, ops), append(want, told)
	}
	var all sync.WaitGroup
	wrong := make([]int, 24)
	for i := range wrong {
		all.Go(func() {
			list, code := impl.StoreRun(scene(), runs[i%6])
			wrong[i] = btoi(code != impl.OK || !slices.EqualFunc(list, want[i%6], sameStoreObs))
		})
	}
	all.Wait()
	if slices.Contains(wrong, 1) {
		t.Errorf("these runs tell something else: %v", wrong)
	}
}
