package tests

import (
	"math/rand"
	"slices"
	"testing"

	"loop.example/g00018/impl"
)

// Every run of a few words, of all kinds.
func TestClusterOfEveryShortTale(t *testing.T) {
	words := []string{"+a ", "+b ", "-a ", "=a ", "? ", "d0 ", "d1 ", "u0 ", "u1 ", "/ "}
	count := 0
	every(words, 4, func(text string) {
		wantSameCluster(t, small(), setup(1, 2), clusterOps(t, text))
		count++
	})
	if count != 1+10+100+1000+10000 {
		t.Errorf("%d runs", count)
	}
	// And behind writes that some copies have not seen, with all asked in the end.
	every(words, 3, func(text string) {
		wantSameCluster(t, small(), setup(2, 2), clusterOps(t, "+a +b d1 +a "+text+"=a =b ? u0 u1 ?"))
		wantSameCluster(t, small(), setup(1, 3), clusterOps(t, "+a d0 +b d1 -a d2 u0 "+text+"u1 =a u2 =a =b ? / ?"))
	})
}

func TestClusterOfRandomTales(t *testing.T) {
	source := rand.New(rand.NewSource(85))
	words := []string{"+a", "+b", "+c", "+d", "+e", "+f", "-a", "-b", "-c", "=a", "=b", "=e", "?", "d0", "d1", "d2", "d3", "u0", "u1", "u2", "u3", "u0 u1 u2 u3", "/"}
	for range 600 {
		text := ""
		for range 20 + source.Intn(60) {
			text += words[source.Intn(len(words))] + " "
		}
		wantSameCluster(t, small(), randomSetup(source), clusterOps(t, text+"? u0 u1 u2 u3 ? / ?"))
	}
}

func TestClusterOfRandomOperations(t *testing.T) {
	source := rand.New(rand.NewSource(86))
	codes := map[int]int{}
	hits := 0
	look := func(search searching, n int) {
		c := randomSetup(source)
		ops, want := randomCluster(source, c, search, n)
		wantCluster(t, scene(), c, ops, want, impl.OK)
		for _, o := range want {
			codes[o.Code]++
			hits += len(o.Result.Hits)
		}
	}
	for range 40 {
		look(searchOf, 60)
	}
	for range 120 {
		look(impl.Search, 200)
	}
	for _, code := range []int{impl.OK, impl.ErrBad, impl.ErrMissing, impl.ErrKind, impl.ErrRange, impl.ErrDown} {
		if codes[code] < 50 {
			t.Errorf("code %d comes %d times", code, codes[code])
		}
	}
	if hits < 1000 {
		t.Errorf("only %d hits are told", hits)
	}
}

// index is one of all documents: those of the writes that had no code.
type index struct {
	docs []impl.Doc
	seqs map[string]int
}

func (x *index) follow(op impl.ClusterOp, o impl.ClusterObs) {
	if !isWrite(op) || o.Code != impl.OK {
		return
	}
	id := writtenId(op)
	x.docs = slices.DeleteFunc(x.docs, func(d impl.Doc) bool { return d.Id == id })
	delete(x.seqs, id)
	if op.Kind == impl.CPut {
		x.docs = append(x.docs, op.Doc)
		x.seqs[id] = o.Seq
	}
}

// Whichever nodes are up: what is not ErrDown is what one index of all documents
// tells, and a document is told with the Seq that its put told.
func TestClusterAnswersAsOneIndex(t *testing.T) {
	source := rand.New(rand.NewSource(87))
	searched, got, missing, down := 0, 0, 0, 0
	for range 120 {
		c := randomSetup(source)
		ops, _ := randomCluster(source, c, impl.Search, 200)
		x := &index{seqs: map[string]int{}}
		for i, o := range mustCluster(t, scene(), c, ops) {
			op := ops[i]
			down += btoi(o.Code == impl.ErrDown)
			switch {
			case o.Code == impl.ErrDown:
			case op.Kind == impl.CSearch:
				want, code := impl.Search(scene(), oneSegment(x.docs), op.Ask)
				if !sameClusterObs(o, impl.ClusterObs{Code: code, Result: want}) {
					t.Fatalf("%+v, operation %d, %s: %s, want %s, code %d", c, i, shortAsk(op.Ask), shortClusterObs(o), shortResult(want), code)
				}
				searched += btoi(want.Total > 0)
			case op.Kind == impl.CGet && o.Code != impl.ErrBad:
				seq, there := x.seqs[op.Id]
				if there != (o.Code == impl.OK) || o.Seq != seq {
					t.Fatalf("%+v, operation %d, %s: %s, want Seq %d", c, i, op.Id, shortClusterObs(o), seq)
				}
				got += btoi(there)
				missing += btoi(!there)
			}
			x.follow(op, o)
		}
	}
	if searched < 1000 || got < 500 || missing < 300 || down < 1000 {
		t.Errorf("only %d searches, %d documents, %d that are missing, %d times ErrDown", searched, got, missing, down)
	}
}

// answers tells codes and results, without what hangs on the setup.
func answers(list []impl.ClusterObs) []impl.ClusterObs {
	list = slices.Clone(list)
	for i := range list {
		list[i] = impl.ClusterObs{Code: list[i].Code, Result: list[i].Result}
	}
	return list
}

// While one of the nodes never goes down the others may come and go: there is no
// ErrDown, and all answers are those of one shard on one node.
func TestClusterWithOneNodeThatStays(t *testing.T) {
	source := rand.New(rand.NewSource(88))
	for range 100 {
		c := randomSetup(source)
		stays := source.Intn(c.Copies)
		ops, _ := randomCluster(source, c, impl.Search, 200)
		ops = slices.DeleteFunc(ops, func(op impl.ClusterOp) bool {
			return op.Kind == impl.CSplit || isNodeKind(op) && (op.Node < 0 || op.Node >= c.Copies) || op.Kind == impl.CNodeDown && op.Node == stays
		})
		plain := slices.Clone(ops)
		for i, op := range plain {
			if isNodeKind(op) {
				plain[i] = nodeUp(0)
			}
		}
		list := mustCluster(t, scene(), c, ops)
		want := mustCluster(t, scene(), setup(1, 1), plain)
		if !slices.EqualFunc(answers(list), answers(want), sameClusterObs) {
			t.Errorf("%+v answers otherwise than one shard on one node", c)
		}
		// With the same shards also Shard and Seq are the same.
		want = mustCluster(t, scene(), setup(c.Shards, 1), plain)
		for i, o := range list {
			want[i].Node = o.Node
			if !sameClusterObs(o, want[i]) {
				t.Fatalf("%+v, operation %d: %s, with one copy %s", c, i, shortClusterObs(o), shortClusterObs(want[i]))
			}
		}
	}
}

// Nothing that was put is lost: all nodes go down, with puts between, and come up, in
// whichever order. A search is ErrDown or tells all that was put, and when all nodes
// are up it is not ErrDown.
func TestClusterLosesNothing(t *testing.T) {
	source := rand.New(rand.NewSource(89))
	all := seeks(impl.Ask{Query: queryOf(t, "* cat dog^2"), Size: 1000, Sort: up("n")})
	again, late := 0, 0
	for range 150 {
		c := setup(1+source.Intn(8), 2+source.Intn(3))
		ops, _ := randomCluster(source, c, impl.Search, 160)
		for _, node := range source.Perm(c.Copies) {
			id := string(rune('a' + source.Intn(12)))
			ops = append(ops, nodeDown(node), places(randomSceneDoc(source, id)))
		}
		n := len(ops)
		for _, node := range source.Perm(c.Copies) {
			ops = append(ops, nodeUp(node), all)
		}
		for id := 'a'; id <= 'l'; id++ {
			ops = append(ops, fetches(string(id)))
		}
		x := &index{seqs: map[string]int{}}
		for i, o := range mustCluster(t, scene(), c, ops) {
			x.follow(ops[i], o)
			op, allUp := ops[i], i >= n+2*c.Copies-1
			switch {
			case i < n || op.Kind == impl.CNodeUp:
			case o.Code == impl.ErrDown && !allUp:
				late++
			case op.Kind == impl.CSearch:
				want := mustSearch(t, scene(), oneSegment(x.docs), all.Ask)
				if !sameClusterObs(o, impl.ClusterObs{Result: want}) {
					t.Errorf("%+v, operation %d: %s, want %s", c, i, shortClusterObs(o), shortResult(want))
				}
				again++
			default:
				if seq, there := x.seqs[op.Id]; there != (o.Code == impl.OK) || o.Seq != seq || o.Node != 0 {
					t.Errorf("%+v, %s: %s, want Seq %d", c, op.Id, shortClusterObs(o), seq)
				}
			}
		}
	}
	if again < 200 || late < 50 {
		t.Errorf("%d searches tell all, %d nothing yet", again, late)
	}
}

// Splits anywhere in a run change no answer; but for the Seqs of later writes, as
// both halves of a shard count for themselves.
func TestClusterSplitsChangeNoAnswer(t *testing.T) {
	source := rand.New(rand.NewSource(90))
	done := 0
	for range 120 {
		c := setup(1+source.Intn(4), 1+source.Intn(4))
		plain, _ := randomCluster(source, c, impl.Search, 190)
		// All nodes stay up, so that a split can be done.
		plain = slices.DeleteFunc(plain, func(op impl.ClusterOp) bool { return isNodeKind(op) || op.Kind == impl.CSplit })
		want := mustCluster(t, scene(), c, plain)
		ops := slices.Clone(plain)
		var at []int
		for range 1 + source.Intn(4) {
			at = append(at, source.Intn(len(plain)+1))
		}
		slices.Sort(at)
		for _, place := range slices.Backward(at) {
			ops = slices.Insert(ops, place, splitsAll())
		}
		list := mustCluster(t, scene(), c, ops)
		for i := range slices.Backward(ops) {
			if ops[i].Kind == impl.CSplit {
				done += btoi(list[i].Code == impl.OK)
				list = slices.Delete(list, i, i+1)
			}
		}
		if !slices.EqualFunc(answers(list), answers(want), sameClusterObs) {
			t.Errorf("%+v answers otherwise with splits at %v", c, at)
		}
		if !slices.EqualFunc(list[:at[0]], want[:at[0]], sameClusterObs) {
			t.Errorf("%+v: what is told ahead of the first split is another thing", c)
		}
		// Of what was put ahead of the first split, and not since, the Seq is what it was.
		fresh := map[string]bool{}
		for i := at[0]; i < len(plain); i++ {
			if isWrite(plain[i]) {
				fresh[writtenId(plain[i])] = true
			} else if plain[i].Kind == impl.CGet && !fresh[plain[i].Id] && list[i].Seq != want[i].Seq {
				t.Errorf("%+v, operation %d: %s, without a split %s", c, i, shortClusterObs(list[i]), shortClusterObs(want[i]))
			}
		}
	}
	if done < 150 {
		t.Errorf("only %d splits", done)
	}
}

// With all nodes up each number of shards and of copies answers the same.
func TestClusterOfEachSetupAnswersTheSame(t *testing.T) {
	source := rand.New(rand.NewSource(91))
	for range 6 {
		ops, _ := randomCluster(source, setup(1, 1), impl.Search, 150)
		ops = slices.DeleteFunc(ops, func(op impl.ClusterOp) bool { return isNodeKind(op) || op.Kind == impl.CSplit })
		want := answers(mustCluster(t, scene(), setup(1, 1), ops))
		for _, c := range setups() {
			if !slices.EqualFunc(answers(mustCluster(t, scene(), c, ops)), want, sameClusterObs) {
				t.Errorf("%+v answers otherwise than one shard on one node", c)
			}
		}
	}
}

// The Seqs of a shard rise by one with each write, whatever its nodes do.
func TestClusterSeqsRise(t *testing.T) {
	source := rand.New(rand.NewSource(92))
	for range 60 {
		c := randomSetup(source)
		ops, _ := randomCluster(source, c, impl.Search, 200)
		seqs := make([]int, c.Shards)
		for i, o := range mustCluster(t, scene(), c, ops) {
			switch {
			case o.Code != impl.OK:
			case ops[i].Kind == impl.CSplit:
				seqs = append(seqs, seqs...)
			case isWrite(ops[i]):
				at := routeOf(writtenId(ops[i]), len(seqs))
				seqs[at]++
				if o.Shard != at || o.Seq != seqs[at] {
					t.Fatalf("%+v, operation %d: %s, want Seq %d of shard %d", c, i, shortClusterObs(o), seqs[at], at)
				}
			}
		}
	}
}

// A run that is cut off answers what the whole one does up to there.
func TestClusterOfEachBeginning(t *testing.T) {
	c := setup(3, 3)
	ops, want := randomCluster(rand.New(rand.NewSource(93)), c, searchOf, 80)
	for n := range len(ops) + 1 {
		wantCluster(t, scene(), c, ops[:n], want[:n], impl.OK)
	}
}
