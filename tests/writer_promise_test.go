package tests

import (
	"math/rand"
	"slices"
	"testing"

	"loop.example/g00018/impl"
)

// Every run of a few words, of all kinds.
func TestRunOfEveryShortTale(t *testing.T) {
	words := []string{"+a", "+b", "-a", "!", "o", "?1", "?2", "x1", "+a@1", "+a@-1", "-a@2", "=a"}
	var tell func(text string, left int)
	count := 0
	tell = func(text string, left int) {
		if left == 0 {
			wantSameRun(t, small(), opsOf(t, text))
			count++
			return
		}
		for _, word := range words {
			tell(text+word+" ", left-1)
		}
	}
	for n := range 5 {
		tell("", n)
	}
	if count != 1+12+144+1728+20736 {
		t.Errorf("%d runs", count)
	}
}

// Runs of puts, deletes and refreshes of up to six ids, with a reader opened behind
// each refresh and all readers asked in the end.
func TestRunOfRandomTales(t *testing.T) {
	source := rand.New(rand.NewSource(62))
	words := []string{"+a", "+b", "+c", "+d", "+e", "+f", "-a", "-b", "-c", "-d", "! o", "! o", "! o", "o", "+a@1", "+b@2", "-c@3", "+d@-1", "x1", "x2", "=a", "=f"}
	for range 400 {
		text := ""
		for range 20 + source.Intn(60) {
			text += words[source.Intn(len(words))] + " "
		}
		wantSameRun(t, small(), opsOf(t, text+"?1 ?2 ?3 ?4 ?5 ?6 ?7 ?8 ?9 ?10 ?11 ?12"))
	}
}

func TestRunOfRandomOperations(t *testing.T) {
	source := rand.New(rand.NewSource(63))
	codes := map[int]int{}
	hits := 0
	look := func(ops []impl.IndexOp, want []impl.IndexObs) {
		wantRun(t, scene(), ops, want, impl.OK)
		for _, o := range want {
			codes[o.Code]++
			hits += len(o.Result.Hits)
		}
	}
	for range 40 {
		look(randomRun(source, searchOf, 60))
	}
	for range 60 {
		look(randomRun(source, impl.Search, 200))
	}
	for _, code := range []int{impl.OK, impl.ErrBad, impl.ErrExists, impl.ErrMissing, impl.ErrVersion, impl.ErrClosed} {
		if codes[code] < 50 {
			t.Errorf("code %d comes %d times", code, codes[code])
		}
	}
	if hits < 1000 {
		t.Errorf("only %d hits are told", hits)
	}
}

// randomWay tells operations behind which just these documents are there: other
// ones are put and deleted between, some are put several times, and refreshes stand
// anywhere.
func randomWay(source *rand.Rand, docs []impl.Doc) []impl.IndexOp {
	var ops []impl.IndexOp
	between := func() {
		for range source.Intn(3) {
			ops = append(ops, []impl.IndexOp{refreshes(), opens(), getsVersion("none")}[source.Intn(3)])
		}
	}
	docs = slices.Clone(docs)
	source.Shuffle(len(docs), func(i, j int) { docs[i], docs[j] = docs[j], docs[i] })
	for _, d := range docs {
		if source.Intn(3) == 0 { // another one with this id comes first
			ops = append(ops, puts(randomSceneDoc(source, d.Id)))
			between()
		}
		if source.Intn(4) == 0 {
			ops = append(ops, puts(randomSceneDoc(source, "gone")))
			between()
			ops = append(ops, removes("gone"))
		}
		if source.Intn(4) == 0 {
			ops = append(ops, puts(d))
			between()
			ops = append(ops, removes(d.Id))
		}
		ops = append(ops, puts(d))
		between()
	}
	return append(ops, refreshes())
}

// However the documents came and however segments were merged, a search tells what
// Search tells of them.
func TestRunOfEachWayToTheSameDocuments(t *testing.T) {
	source := rand.New(rand.NewSource(64))
	hits := 0
	for range 25 {
		docs := stockDocs(source, source.Intn(20))
		var asks []impl.Ask
		for range 5 {
			asks = append(asks, randomAsk(source, docs, randomSceneBranch(source, 3).query()))
		}
		for range 6 {
			ops := randomWay(source, docs)
			readers := 0
			for _, op := range ops {
				readers += btoi(op.Kind == impl.WOpen)
			}
			ops = append(ops, opens())
			for _, a := range asks {
				ops = append(ops, searches(readers+1, a))
			}
			list := mustRun(t, scene(), ops)
			for i, a := range asks {
				o := list[len(list)-len(asks)+i]
				want, code := impl.Search(scene(), oneSegment(docs), a)
				if o.Code != code || !sameResult(o.Result, want) || o.Live != len(docs) {
					t.Errorf("%s: %s, want %s, code %d", shortAsk(a), shortObs(o), shortResult(want), code)
				}
				hits += len(want.Hits)
			}
		}
	}
	if hits < 500 {
		t.Errorf("only %d hits are told", hits)
	}
}

// A reader is asked the same again and again, whatever is done between.
func TestReaderSeesTheSameForEver(t *testing.T) {
	source := rand.New(rand.NewSource(65))
	all := impl.Ask{Query: queryOf(t, "* cat dog^2"), Size: 1000, Sort: up("n")}
	seen := 0
	for range 60 {
		w := &writerTelling{s: scene(), search: impl.Search}
		var ops []impl.IndexOp
		for len(ops) < 190 {
			op := randomOp(source, w)
			if op.Kind == impl.WSearch || op.Kind == impl.WClose {
				op = searches(op.Reader, all)
			}
			w.do(op)
			ops = append(ops, op)
		}
		first := map[int]impl.Result{}
		for i, o := range mustRun(t, scene(), ops) {
			if ops[i].Kind != impl.WSearch || o.Code != impl.OK {
				continue
			}
			if want, known := first[ops[i].Reader]; !known {
				first[ops[i].Reader] = o.Result
			} else if !sameResult(o.Result, want) {
				t.Errorf("operation %d, reader %d: %s, at first %s", i, ops[i].Reader, shortResult(o.Result), shortResult(want))
			} else {
				seen += btoi(want.Total > 0)
			}
		}
	}
	if seen < 500 {
		t.Errorf("only %d searches tell anything again", seen)
	}
}

// Every put and delete without a code takes the version behind the last one, and
// nothing else takes any.
func TestVersionsRise(t *testing.T) {
	source := rand.New(rand.NewSource(66))
	for range 60 {
		ops, _ := randomRun(source, impl.Search, 200)
		last := 0
		versions := map[string]int{}
		for i, o := range mustRun(t, scene(), ops) {
			op := ops[i]
			want := 0
			switch {
			case o.Code != impl.OK:
			case op.Kind == impl.WPut:
				last++
				want, versions[op.Doc.Id] = last, last
			case op.Kind == impl.WDelete:
				last++
				want, versions[op.Id] = last, 0
			case op.Kind == impl.WGet:
				want = versions[op.Id]
			}
			if o.Version != want {
				t.Fatalf("operation %d, %s: version %d, want %d", i, shortOp(op), o.Version, want)
			}
		}
		if last < 30 {
			t.Errorf("only %d versions", last)
		}
	}
}

// A run that is cut off answers what the whole one does up to there.
func TestRunOfEachBeginning(t *testing.T) {
	ops, want := randomRun(rand.New(rand.NewSource(67)), searchOf, 80)
	for n := range len(ops) + 1 {
		wantRun(t, scene(), ops[:n], want[:n], impl.OK)
	}
}
