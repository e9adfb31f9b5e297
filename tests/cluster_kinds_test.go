package tests

import (
	"slices"
	"strings"
	"testing"

	"loop.example/g00018/impl"
)

// Each kind alone, on nothing, with each number of shards and of copies.
func TestClusterOfOneOperation(t *testing.T) {
	for _, c := range setups() {
		for _, id := range strings.Split("a b c d e f g h", " ") {
			wantCluster(t, small(), c, []impl.ClusterOp{places(docWith(id))}, []impl.ClusterObs{{Shard: routeOf(id, c.Shards), Seq: 1}}, impl.OK)
		}
		wantClusterTale(t, c, "-a c8")
		wantClusterTale(t, c, "=a c8")
		wantClusterTale(t, c, "?")
		wantClusterTale(t, c, "d0")
		wantClusterTale(t, c, "u0")
		split := "/"
		if c.Shards > 4 {
			split = "/ c12"
		}
		wantClusterTale(t, c, split)
		wantClusterTale(t, c)
	}
}

// Each kind over and over, behind some others.
func TestClusterOfOneKind(t *testing.T) {
	for _, word := range []string{"+a", "-a", "=a", "?", "d0", "u0", "d1", "u1", "/"} {
		for _, ahead := range []string{"", "+a ", "+a +b +c ", "+a d0 ", "+a d0 +a ", "d0 +a d1 u0 "} {
			for _, c := range []impl.ClusterSetup{setup(1, 1), setup(1, 2), setup(2, 3), setup(5, 2), setup(8, 4)} {
				ops := clusterOps(t, ahead+strings.Repeat(word+" ", 200))
				wantSameCluster(t, small(), c, ops[:200])
			}
		}
	}
	list := mustCluster(t, small(), setup(1, 1), clusterOps(t, strings.Repeat("+a +b ", 50)+"=a =b"))
	if clusterText(list[100]) != "0.99@0" || clusterText(list[101]) != "0.100@0" {
		t.Errorf("%s, %s", clusterText(list[100]), clusterText(list[101]))
	}
}

func TestClusterOfPuts(t *testing.T) {
	wantClusterTale(t, setup(1, 1), "+a 0.1@0", "+b 0.2@0", "+c 0.3@0", "? 3 a:0 b:1 c:2")
	wantClusterTale(t, setup(2, 1), "+a 0.1@0", "+b 1.1@0", "+c 0.2@0", "+d 1.2@0", "? 4 a:0 b:1 c:2 d:3", "+e 0.3@0", "+f 1.3@0", "? 6 a:0 b:1 c:2 d:3 e:5 f:6")
	wantClusterTale(t, setup(8, 4), "+a 4.1@0", "+b 5.1@0", "+c 2.1@0", "+d 3.1@0", "+e 0.1@0", "+f 1.1@0", "+g 6.1@0", "+h 7.1@0", "+a 4.2@0", "+i 4.3@0", "? 9 b:1 c:2 d:3 e:4 f:5 g:6 h:7 a:8 i:9")
	// A document makes way for another one with its id.
	wantClusterTale(t, setup(1, 2), "+a 0.1@0", "+a 0.2@0", "=a 0.2@0", "? 1 a:1", "+b 0.3@0", "+a 0.4@0", "=a 0.4@0", "=b 0.3@0", "? 2 b:4 a:5")
	// An id that is the beginning of another one is another one.
	wantClusterTale(t, setup(1, 1), "+a 0.1@0", "+ab 0.2@0", "+A 0.3@0", "+ab 0.4@0", "=a 0.1@0", "=ab 0.4@0", "=A 0.3@0", "? 3 a:0 A:2 ab:3")
}

func TestClusterOfDeletes(t *testing.T) {
	wantClusterTale(t, setup(1, 1), "+a 0.1@0", "-a 0.2@0", "-a c8", "=a c8", "?", "+a 0.3@0", "=a 0.3@0", "? 1 a:5", "-a 0.4@0", "-a c8")
	wantClusterTale(t, setup(2, 2), "-a c8", "+a 0.1@0", "-b c8", "-c c8", "-A c8", "-aa c8", "+b 1.1@0", "+c 0.2@0", "-a 0.3@0", "? 2 b:6 c:7", "-c 0.4@0", "-b 1.2@0", "-b c8", "?", "+e 0.5@0", "+d 1.3@0")
}

// A get ahead of and behind puts and deletes, of its own id and of others.
func TestClusterOfGets(t *testing.T) {
	wantClusterTale(t, setup(1, 1), "=a c8", "+a 0.1@0", "=a 0.1@0", "=b c8", "+b 0.2@0", "=a 0.1@0", "=b 0.2@0", "-a 0.3@0", "=a c8", "=b 0.2@0", "+a 0.4@0", "=a 0.4@0", "=b 0.2@0", "+b 0.5@0", "=b 0.5@0")
	wantClusterTale(t, setup(4, 3), "=a c8", "+a 0.1@0", "+e 0.2@0", "+i 0.3@0", "+b 1.1@0", "=a 0.1@0", "=e 0.2@0", "=i 0.3@0", "=b 1.1@0", "-e 0.4@0", "=e c8", "=i 0.3@0", "+e 0.5@0", "=e 0.5@0", "=a 0.1@0")
}

// What a search tells is that of all shards together, wherever documents are; it
// changes nothing, and behind each change it is another one.
func TestClusterOfSearches(t *testing.T) {
	for _, c := range setups() {
		list := mustCluster(t, small(), c, clusterOps(t, "? +a ? +b ? ? -a ? +c +d +e ? +b ? -c ? -c ?"))
		for i, want := range map[int]string{0: "", 2: "1 a:1", 4: "2 a:1 b:3", 5: "2 a:1 b:3", 7: "1 b:3", 11: "4 b:3 c:8 d:9 e:10", 13: "4 c:8 d:9 e:10 b:12", 15: "3 d:9 e:10 b:12", 17: "3 d:9 e:10 b:12"} {
			if told := clusterText(list[i]); told != want {
				t.Errorf("%+v, operation %d: %s, want %s", c, i, told, want)
			}
		}
	}
}

// Scores are weighed by the documents of all shards, with each number of them.
func TestClusterOfEachKindOfQuery(t *testing.T) {
	var ops []impl.ClusterOp
	for _, d := range sceneDocs() {
		ops = append(ops, places(d))
	}
	for i, text := range append(kindTexts(), "pla*", "year:[* 0]", "cat^3 (dog pet)^2") {
		q := queryOf(t, text)
		for j, a := range []impl.Ask{{Query: q, Size: 2, From: 1}, {Query: q, Size: 9, Collapse: "tag", Sort: up("year", "n")}, {Query: q, Size: 9, Sort: down("n"), Behind: true, Last: last("d1", 1, 5)}} {
			c := setups()[(3*i+j)%len(setups())]
			run := append(ops[:len(ops):len(ops)], seeks(a), takes("d2"), seeks(a), nodeDown(c.Copies-1), nodeUp(c.Copies-1), seeks(a))
			wantSameCluster(t, scene(), c, run)
			list := mustCluster(t, scene(), c, run)
			rest := slices.DeleteFunc(sceneDocs(), func(d impl.Doc) bool { return d.Id == "d2" })
			for place, docs := range map[int][]impl.Doc{0: sceneDocs(), 2: rest, 5: rest} {
				if o := list[len(ops)+place]; !sameResult(o.Result, mustSearch(t, scene(), oneSegment(docs), a)) {
					t.Errorf("%+v, %s: %s", c, shortAsk(a), shortClusterObs(o))
				}
			}
		}
	}
	// Each query with each setup, of all documents.
	for _, c := range setups() {
		run := slices.Clone(ops)
		for _, text := range kindTexts() {
			run = append(run, seeks(impl.Ask{Query: queryOf(t, text), Size: 9}))
		}
		for i, o := range mustCluster(t, scene(), c, run)[len(ops):] {
			if want := mustSearch(t, scene(), oneSegment(sceneDocs()), run[len(ops)+i].Ask); !sameResult(o.Result, want) {
				t.Errorf("%+v, %s: %s, want %s", c, kindTexts()[i], shortClusterObs(o), shortResult(want))
			}
		}
	}
}
