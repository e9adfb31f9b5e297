package tests

import (
	"math/rand"
	"slices"
	"strings"
	"testing"

	"loop.example/g00018/impl"
)

// Every run of a few words, of all kinds.
func TestStoreOfEveryShortTale(t *testing.T) {
	words := []string{"+a ", "+b ", "-a ", "s ", "? ", "!0 ", "!16 ", "!99 ", "!99~14 ", "r "}
	count := 0
	every(words, 4, func(text string) {
		wantSameStore(t, small(), storeOps(t, text))
		count++
	})
	if count != 1+10+100+1000+10000 {
		t.Errorf("%d runs", count)
	}
	// And behind a crash, of what was and of what was not synced.
	every(words[:8], 3, func(text string) { wantSameStore(t, small(), storeOps(t, "+a s +b !20 r "+text+"!30 r ?")) })
}

func TestStoreOfRandomTales(t *testing.T) {
	source := rand.New(rand.NewSource(74))
	words := []string{"+a", "+b", "+c", "+d", "+e", "-a", "-b", "-c", "s", "?", "!0 r", "!15 r", "!23 r", "!99 r", "!99~20 r", "!40~39 r", "!7~0", "r"}
	for range 500 {
		text := ""
		for range 20 + source.Intn(40) {
			text += words[source.Intn(len(words))] + " "
		}
		wantSameStore(t, small(), storeOps(t, text+"s !0 r ?"))
	}
}

func TestStoreOfRandomOperations(t *testing.T) {
	source := rand.New(rand.NewSource(75))
	codes := map[int]int{}
	hits := 0
	look := func(ops []impl.StoreOp, want []impl.StoreObs) {
		wantStore(t, scene(), ops, want, impl.OK)
		for _, o := range want {
			codes[o.Code]++
			hits += len(o.Result.Hits)
		}
	}
	for range 30 {
		look(randomStore(source, searchOf, 60))
	}
	for range 60 {
		look(randomStore(source, impl.Search, 200))
	}
	for _, code := range []int{impl.OK, impl.ErrBad, impl.ErrMissing, impl.ErrKind, impl.ErrDown} {
		if codes[code] < 50 {
			t.Errorf("code %d comes %d times", code, codes[code])
		}
	}
	if hits < 1000 {
		t.Errorf("only %d hits are told", hits)
	}
}

// A written is a put or a delete that had no code, and how many bytes the log had
// behind it.
type written struct {
	op  impl.StoreOp
	end int
}

// held tells the documents that are there behind these writes.
func held(list []written) []impl.Doc {
	var docs []impl.Doc
	for _, w := range list {
		id := w.op.Id
		if w.op.Kind == impl.SPut {
			id = w.op.Doc.Id
		}
		docs = slices.DeleteFunc(docs, func(d impl.Doc) bool { return d.Id == id })
		if w.op.Kind == impl.SPut {
			docs = append(docs, w.op.Doc)
		}
	}
	return docs
}

// What was synced survives every crash, and what comes back is some of what was
// written, from the first on: all that the disk kept whole.
func TestSyncedRecordsSurvive(t *testing.T) {
	source := rand.New(rand.NewSource(76))
	all := impl.Ask{Query: queryOf(t, "* cat dog^2"), Size: 1000, Sort: up("n")}
	crashed, lost := 0, 0
	for range 70 {
		x := &storeTelling{s: scene(), search: impl.Search}
		var ops []impl.StoreOp
		for len(ops) < 196 {
			op := randomStoreOp(source, x)
			if op.Kind == impl.SPut || op.Kind == impl.SDelete {
				op = impl.StoreOp{Kind: op.Kind, Id: op.Id, Doc: op.Doc} // with nothing but what is looked at
			}
			ops = append(ops, op)
			x.do(op)
			if op.Kind == impl.SRecover {
				ops = append(ops, finds(all))
			}
		}
		var list []written
		synced := 0
		for i, o := range mustStore(t, scene(), ops) {
			op := ops[i]
			switch {
			case op.Kind == impl.SFind && i > 0 && ops[i-1].Kind == impl.SRecover:
				want, code := impl.Search(scene(), oneSegment(held(list)), all)
				if !sameStoreObs(o, impl.StoreObs{Seq: len(list), Bytes: o.Bytes, Synced: o.Synced, Live: len(held(list)), Result: want, Code: code}) {
					t.Fatalf("operation %d: %s, want %d records, %s", i, shortStoreObs(o), len(list), shortResult(want))
				}
			case o.Code != impl.OK:
			case op.Kind == impl.SPut || op.Kind == impl.SDelete:
				list = append(list, written{op, o.Bytes})
				if o.Seq != len(list) {
					t.Fatalf("operation %d: %s behind %d records", i, shortStoreObs(o), len(list))
				}
			case op.Kind == impl.SSync:
				synced = len(list)
			case op.Kind == impl.SRecover:
				if o.Seq < synced || o.Seq > len(list) || o.Bytes != o.Synced || o.Seq > 0 && o.Bytes != list[o.Seq-1].end {
					t.Fatalf("operation %d: %s, of %d records %d were synced", i, shortStoreObs(o), len(list), synced)
				}
				crashed++
				lost += len(list) - o.Seq
				list, synced = list[:o.Seq], o.Seq
			}
		}
	}
	if crashed < 300 || lost < 300 {
		t.Errorf("only %d crashes, %d records lost", crashed, lost)
	}
}

// A run with crashes goes on as one in which only what survived was written.
func TestStoreForgetsWhatWasLost(t *testing.T) {
	source := rand.New(rand.NewSource(77))
	all := impl.Ask{Query: queryOf(t, "* cat dog^2"), Size: 1000, Sort: up("n")}
	for range 100 {
		ops, told := randomStore(source, impl.Search, 150)
		ops = append(ops, recovers(), finds(all))
		var list []impl.StoreOp
		for i, o := range told {
			switch {
			case o.Code != impl.OK:
			case ops[i].Kind == impl.SPut || ops[i].Kind == impl.SDelete:
				list = append(list, ops[i])
			case ops[i].Kind == impl.SRecover:
				list = list[:o.Seq]
			}
		}
		o := lastStore(t, scene(), ops)
		list = list[:o.Seq]
		want := lastStore(t, scene(), append(slices.Clone(list), finds(all)))
		want.Synced = o.Synced
		if !sameStoreObs(o, want) {
			t.Errorf("%s, without crashes %s", shortStoreObs(o), shortStoreObs(want))
		}
	}
}

// The log of a run is what RecordBytes tells of its puts and deletes, and ReadLog
// tells these again.
func TestStoreWritesRecords(t *testing.T) {
	source := rand.New(rand.NewSource(78))
	for range 60 {
		var list []impl.Record
		var log []byte
		ops, _ := randomStore(source, impl.Search, 150)
		ops = slices.DeleteFunc(ops, func(op impl.StoreOp) bool { return op.Kind > 4 })
		for i, o := range mustStore(t, scene(), ops) {
			switch {
			case o.Code != impl.OK:
			case ops[i].Kind == impl.SPut:
				list = append(list, putRecord(len(list)+1, ops[i].Doc))
				log = append(log, mustRecord(t, list[len(list)-1])...)
			case ops[i].Kind == impl.SDelete:
				list = append(list, deleteRecord(len(list)+1, ops[i].Id))
				log = append(log, mustRecord(t, list[len(list)-1])...)
			}
			if o.Bytes != len(log) || o.Seq != len(list) {
				t.Fatalf("operation %d: %s, want %d records of %d bytes", i, shortStoreObs(o), len(list), len(log))
			}
		}
		wantLog(t, log, list, len(log), impl.OK)
	}
}

// Searching is the same with the documents as they came and as they come back.
func TestStoreAnswersAsSearch(t *testing.T) {
	source := rand.New(rand.NewSource(79))
	hits := 0
	for range 25 {
		docs := stockDocs(source, source.Intn(20))
		var ops []impl.StoreOp
		for _, d := range docs {
			if source.Intn(3) == 0 {
				ops = append(ops, keeps(randomSceneDoc(source, d.Id)))
			}
			if source.Intn(4) == 0 {
				ops = append(ops, keeps(randomSceneDoc(source, "gone")), drops("gone"))
			}
			ops = append(ops, keeps(d))
			if source.Intn(4) == 0 {
				ops = append(ops, crashes(1<<20), recovers())
			}
		}
		for range 6 {
			a := randomAsk(source, docs, randomSceneBranch(source, 3).query())
			want, code := impl.Search(scene(), oneSegment(docs), a)
			run := append(ops[:len(ops):len(ops)], finds(a), syncs(), crashes(0), recovers(), finds(a))
			list := mustStore(t, scene(), run)
			for _, o := range []impl.StoreObs{list[len(ops)], list[len(ops)+4]} {
				if o.Code != code || !sameResult(o.Result, want) || o.Live != len(docs) {
					t.Errorf("%s: %s, want %s, code %d", shortAsk(a), shortStoreObs(o), shortResult(want), code)
				}
			}
			hits += len(want.Hits)
		}
	}
	if hits < 100 {
		t.Errorf("only %d hits are told", hits)
	}
}

// A run that is cut off answers what the whole one does up to there.
func TestStoreOfEachBeginning(t *testing.T) {
	ops, want := randomStore(rand.New(rand.NewSource(80)), searchOf, 80)
	for n := range len(ops) + 1 {
		wantStore(t, scene(), ops[:n], want[:n], impl.OK)
	}
}

// A text that holds the bytes of a record does not become one when the length ahead
// of it is turned over.
func TestStoreOfRecordsWithinTexts(t *testing.T) {
	for _, inner := range []impl.Record{deleteRecord(1, "a"), deleteRecord(2, "a"), putRecord(1, docWith("q")), putRecord(2, docWith("q")), putRecord(3, docWith("q"))} {
		for _, ahead := range []int{0, 1, 100, 130, 250} {
			b := mustRecord(t, inner)
			text := strings.Repeat("x", ahead) + strings.ToValidUTF8(string(b), "?") + strings.Repeat("y", 50)
			ops := []impl.StoreOp{keeps(docWith("a", textsIn("t", text))), keeps(docWith("b", textsIn("t", text))), drops("a")}
			size := lastStore(t, small(), ops).Bytes
			for at := range size {
				run := append(ops[:3:3], crashesAt(size, at), recovers(), finds(impl.Ask{Query: allLeaf().query(), Size: 9}))
				list := mustStore(t, small(), run)
				whole := 0
				for whole < 3 && list[whole].Bytes <= at {
					whole++
				}
				if o := list[5]; o.Seq != whole || toldIds(o.Result.Hits) != []string{"", "a", "a b", "b"}[whole] {
					t.Errorf("turned over at %d: %s, want %d records", at, shortStoreObs(o), whole)
				}
			}
		}
	}
}
