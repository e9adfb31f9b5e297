package tests

import (
	"fmt"
	"slices"
	"testing"

	"loop.example/g00018/impl"
)

// Splits of one, two and four shards: a document goes on to have the Seq that it
// had, and both halves go on to count from where the old shard was.
func TestClusterOfSplits(t *testing.T) {
	wantClusterTale(t, setup(1, 1), "+a 0.1@0", "+b 0.2@0", "+c 0.3@0", "+d 0.4@0", "/", "=a 0.1@0", "=b 1.2@0", "=c 0.3@0", "=d 1.4@0", "? 4 a:0 b:1 c:2 d:3", "+a 0.5@0", "+b 1.5@0", "-c 0.6@0", "+d 1.6@0", "=a 0.5@0", "=b 1.5@0", "=c c8", "=d 1.6@0", "? 3 a:10 b:11 d:13")
	wantClusterTale(t, setup(2, 2), "+a 0.1@0", "+c 0.2@0", "+b 1.1@0", "/", "=a 0.1@0", "=c 2.2@0", "=b 1.1@0", "? 3 a:0 c:1 b:2", "+a 0.3@0", "+c 2.3@0", "+b 1.2@0", "+d 3.2@0", "? 4 a:8 c:9 b:10 d:11")
	wantClusterTale(t, setup(4, 3), "+a 0.1@0", "+e 0.2@0", "+i 0.3@0", "+b 1.1@0", "+c 2.1@0", "+g 2.2@0", "/", "=a 4.1@0", "=e 0.2@0", "=i 4.3@0", "=b 5.1@0", "=c 2.1@0", "=g 6.2@0", "=d c8", "? 6 a:0 e:1 i:2 b:3 c:4 g:5", "+e 0.4@0", "+a 4.4@0", "-g 6.3@0", "+c 2.3@0", "+f 1.2@0", "+d 3.1@0", "+h 7.1@0", "? 8 i:2 b:3 e:15 a:16 c:18 f:19 d:20 h:21")
	// All three, one behind the other, and a fourth that may not be.
	wantClusterTale(t, setup(1, 2), "+a 0.1@0", "/", "+b 1.2@0", "/", "+c 2.2@0", "/", "+d 3.3@0", "/ c12", "=a 4.1@0", "=b 5.2@0", "=c 2.2@0", "=d 3.3@0", "? 4 a:0 b:2 c:4 d:6", "+e 0.2@0", "+f 1.3@0", "+g 6.3@0", "+h 7.3@0")
	// Of three shards there are six; these are too many.
	wantClusterTale(t, setup(3, 1), "+a 1.1@0", "+c 2.1@0", "+g 0.1@0", "+b 1.2@0", "/", "=a 4.1@0", "=b 1.2@0", "=c 2.1@0", "=g 0.1@0", "/ c12", "+a 4.3@0", "+f 5.2@0", "? 5 c:1 g:2 b:3 a:10 f:11")
	// Of a document that was deleted, and of one that was put anew, the old ones are
	// not there again.
	wantClusterTale(t, setup(1, 1), "+a 0.1@0", "+b 0.2@0", "-a 0.3@0", "+b 0.4@0", "/", "=a c8", "=b 1.4@0", "? 1 b:3", "-a c8", "-b 1.5@0", "/", "=b c8", "?", "+a 0.5@0", "+b 1.6@0")
	// Of nothing.
	wantClusterTale(t, setup(1, 1), "/", "?", "/", "+a 0.1@0", "/", "=a 4.1@0")
}

// A split is refused while a node is down, and is done when all are up again.
func TestClusterOfSplitsWithNodes(t *testing.T) {
	for _, node := range []string{"0", "1", "2"} {
		head := "1"
		if node != "0" {
			head = "0"
		}
		wantClusterTale(t, setup(1, 3), "+a 0.1@0", "d"+node, "/ c14", "+b 0.2@"+head, "/ c14", "=b 0.2@"+head, "u"+node, "/", "=a 0.1@0", "=b 1.2@0", "d0", "=b 1.2@1", "? 2 a:0 b:3", "d1", "=a 0.1@2", "? 2 a:0 b:3", "/ c14")
	}
	// A copy that is not in step while no head is there; the node that has it comes up,
	// and all are.
	wantClusterTale(t, setup(1, 2), "d0", "+a 0.1@1", "d1", "u0", "/ c14", "d0", "/ c14", "u1", "/ c14", "u0", "/", "=a 0.1@0")
	// One shard is enough for the split to be refused.
	wantClusterTale(t, setup(2, 2), "+a 0.1@0", "+b 1.1@0", "d1", "/ c14", "+a 0.2@0", "/ c14", "u1", "/", "=a 0.2@0", "d0", "=a 0.2@1", "=b 1.1@1", "+c 2.3@1", "d1", "u0", "=c c14", "=a 0.2@0", "? c14", "u1", "? 3 b:1 a:4 c:12")
	// More shards than may be counts ahead of a node that is down.
	wantClusterTale(t, setup(5, 2), "d0", "/ c12", "d1", "/ c12")
	wantClusterTale(t, setup(4, 2), "d0", "/ c14", "u0", "/", "d0", "/ c12")
}

// The halves are apart: what is written to one is not to be seen in the other, also
// in which copies are in step.
func TestClusterOfHalves(t *testing.T) {
	wantClusterTale(t, setup(1, 2), "+a 0.1@0", "+b 0.2@0", "/", "d0", "+a 0.3@1", "d1", "u0", "=a c14", "=b 1.2@0", "+d 1.3@0", "=d 1.3@0", "? c14", "u1", "=a 0.3@0", "? 3 b:1 a:4 d:9")
}

// Where all documents go, by Route, with each number of shards that can be split.
func TestClusterRoutesAnew(t *testing.T) {
	for shards := 1; shards <= 4; shards++ {
		for copies := 1; copies <= 4; copies++ {
			var ops []impl.ClusterOp
			seqs := make([]int, shards)
			var seqOf []int
			for _, d := range numbered(40) {
				ops = append(ops, places(d))
				at := routeOf(d.Id, shards)
				seqs[at]++
				seqOf = append(seqOf, seqs[at])
			}
			ops = append(ops, splitsAll())
			for _, d := range numbered(40) {
				ops = append(ops, fetches(d.Id))
			}
			list := mustCluster(t, small(), setup(shards, copies), ops)
			for i, d := range numbered(40) {
				want := impl.ClusterObs{Shard: routeOf(d.Id, 2*shards), Seq: seqOf[i]}
				if o := list[41+i]; !sameClusterObs(o, want) {
					t.Errorf("%d shards, %s: %s, want %s", shards, d.Id, shortClusterObs(o), shortClusterObs(want))
				}
			}
			// The next Seq of each half is told by a put.
			seqs = append(seqs, seqs...)
			more := ops
			var want []impl.ClusterObs
			for _, d := range numbered(80)[40:] {
				at := routeOf(d.Id, 2*shards)
				seqs[at]++
				want = append(want, impl.ClusterObs{Shard: at, Seq: seqs[at]})
				more = append(more, places(d))
			}
			for i, o := range mustCluster(t, small(), setup(shards, copies), more)[len(ops):] {
				if !sameClusterObs(o, want[i]) {
					t.Errorf("%d shards, put %d behind a split: %s, want %s", shards, i, shortClusterObs(o), shortClusterObs(want[i]))
				}
			}
		}
	}
}

// A split ahead of each operation of a run.
func TestClusterOfASplitAtEachPlace(t *testing.T) {
	plain := clusterOps(t, "+a +b +c d1 +d ? u1 -a =b d0 =b +e +f u0 ? =c -c +a ? d1 d0 u1 ? =a u0 ? +b =b")
	for _, c := range []impl.ClusterSetup{setup(1, 2), setup(2, 2), setup(3, 2), setup(4, 2), setup(5, 2)} {
		for at := range len(plain) + 1 {
			wantSameCluster(t, small(), c, slices.Insert(slices.Clone(plain), at, splitsAll()))
			for next := at; next <= len(plain); next++ {
				wantSameCluster(t, small(), c, slices.Insert(slices.Insert(slices.Clone(plain), next, splitsAll()), at, splitsAll()))
			}
		}
	}
}

// Searches ahead of and behind a split are the same, scores too.
func TestClusterSearchesBehindSplits(t *testing.T) {
	var ops []impl.ClusterOp
	for _, d := range sceneDocs() {
		ops = append(ops, places(d))
	}
	for shards := 1; shards <= 4; shards++ {
		for _, text := range kindTexts() {
			ask := seeks(impl.Ask{Query: queryOf(t, text), Size: 9, Sort: up("n")})
			list := mustCluster(t, scene(), setup(shards, 2), append(ops[:len(ops):len(ops)], ask, splitsAll(), ask, splitsAll(), ask, splitsAll(), ask))
			n := len(ops)
			want := mustSearch(t, scene(), oneSegment(sceneDocs()), ask.Ask)
			for _, place := range []int{n, n + 2, n + 4, n + 6} {
				if o := list[place]; o.Code != impl.OK || !sameResult(o.Result, want) {
					t.Errorf("%d shards, %s: %s, want %s", shards, text, shortClusterObs(o), shortResult(want))
				}
			}
			codes := fmt.Sprint(list[n+1].Code, list[n+3].Code, list[n+5].Code)
			if codes != []string{"0 0 0", "0 0 12", "0 12 12", "0 12 12"}[shards-1] {
				t.Errorf("%d shards: the splits have the codes %s", shards, codes)
			}
		}
	}
}
