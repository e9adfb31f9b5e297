package tests

import (
	"fmt"
	"strings"
	"testing"

	"loop.example/g00018/impl"
)

// everyOrder tells the numbers below n in each order.
func everyOrder(n int, tell func(order []int)) {
	var grow func(order []int)
	grow = func(order []int) {
		if len(order) == n {
			tell(order)
			return
		}
	next:
		for k := range n {
			for _, other := range order {
				if other == k {
					continue next
				}
			}
			grow(append(order[:len(order):len(order)], k))
		}
	}
	grow(nil)
}

// The head is the first copy in step on a node that is up.
func TestClusterHeads(t *testing.T) {
	wantClusterTale(t, setup(1, 3), "+a 0.1@0", "=a 0.1@0", "d0", "=a 0.1@1", "+b 0.2@1", "d1", "=a 0.1@2", "=b 0.2@2", "-a 0.3@2", "=a c8", "? 1 b:4", "d2", "=b c14")
	// One that goes down and comes up again without a write between is the head again.
	wantClusterTale(t, setup(1, 3), "+a 0.1@0", "d0", "=a 0.1@1", "u0", "=a 0.1@0", "+b 0.2@0", "d1", "d2", "u2", "u1", "+c 0.3@0", "d0", "+d 0.4@1")
	// One that was not in step is the head again when it has come up, too.
	wantClusterTale(t, setup(1, 3), "d0", "+a 0.1@1", "+b 0.2@1", "u0", "=a 0.1@0", "=b 0.2@0", "? 2 a:1 b:2", "+c 0.3@0", "d0", "=c 0.3@1", "d1", "=c 0.3@2", "? 3 a:1 b:2 c:7")
	// The last node goes down: nothing is to be seen of it.
	wantClusterTale(t, setup(2, 2), "+a 0.1@0", "d1", "+a 0.2@0", "=a 0.2@0", "? 1 a:2", "u1", "d0", "=a 0.2@1", "? 1 a:2")
}

// While a shard has no head nothing is done there.
func TestClusterWithoutAHead(t *testing.T) {
	wantClusterTale(t, setup(1, 1), "+a 0.1@0", "d0", "+a c14", "+b c14", "-a c14", "-b c14", "=a c14", "=b c14", "? c14", "/ c14", "u0", "=a 0.1@0", "=b c8", "? 1 a:0", "+b 0.2@0", "/", "? 2 a:0 b:14")
	wantClusterTale(t, setup(8, 4), "d3", "d2", "d1", "d0", "+a c14", "-a c14", "=a c14", "? c14", "u3", "+a 4.1@3", "=a 4.1@3", "? 1 a:9", "u1", "=a 4.1@1", "u0", "-a 4.2@0", "?")
}

// What a copy that was not in step has is not to be seen until it has what the head
// has.
func TestClusterOfCopiesNotInStep(t *testing.T) {
	// A put, another put and a delete that node 0 does not see; it is alone, then.
	wantClusterTale(t, setup(1, 2), "+a 0.1@0", "d0", "+b 0.2@1", "d1", "u0", "=a c14", "=b c14", "+c c14", "-a c14", "? c14", "u1", "=a 0.1@0", "=b 0.2@0", "? 2 a:0 b:2")
	wantClusterTale(t, setup(1, 2), "+a 0.1@0", "d0", "+a 0.2@1", "d1", "u0", "? c14", "u1", "=a 0.2@0", "? 1 a:2", "d1", "=a 0.2@0", "? 1 a:2")
	wantClusterTale(t, setup(1, 2), "+a 0.1@0", "d0", "-a 0.2@1", "d1", "u0", "=a c14", "? c14", "u1", "=a c8", "?", "+a 0.3@0", "=a 0.3@0")
	// Node 1 is in step when it comes up, for there was no head to write to.
	wantClusterTale(t, setup(1, 2), "+a 0.1@0", "d1", "d0", "+b c14", "u1", "=a 0.1@1", "+b 0.2@1", "u0", "=b 0.2@0", "? 2 a:0 b:6")
	// Copies on nodes that were up all along get what the head has, too.
	wantClusterTale(t, setup(1, 3), "d0", "+a 0.1@1", "d1", "+b 0.2@2", "d2", "u0", "=a c14", "u1", "=a c14", "? c14", "u2", "=a 0.1@0", "=b 0.2@0", "d0", "? 2 a:1 b:3", "=b 0.2@1", "d1", "=b 0.2@2", "u0", "+c 0.3@0")
	// Nodes 0 and 1 are up again in vain, and go down again; what is there is node 2's.
	wantClusterTale(t, setup(1, 3), "+a 0.1@0", "d0", "d1", "-a 0.2@2", "+b 0.3@2", "d2", "u1", "u0", "d1", "d0", "u2", "=a c8", "=b 0.3@2", "u1", "=b 0.3@1", "? 1 b:4", "u0", "+a 0.4@0", "? 2 b:4 a:17")
	// A write that has a code leaves all copies in step.
	wantClusterTale(t, setup(1, 2), "+a 0.1@0", "d1", "-b c8", "=b c8", "d0", "u1", "=a 0.1@1", "? 1 a:0")
}

// The shards are apart: the copy of one is in step where that of another is not.
func TestClusterOfShardsWithAndWithoutAHead(t *testing.T) {
	wantClusterTale(t, setup(2, 2), "+a 0.1@0", "+b 1.1@0", "d0", "+c 0.2@1", "d1", "u0", "=a c14", "=c c14", "=b 1.1@0", "+d 1.2@0", "? c14", "-a c14", "-b 1.3@0", "/ c14", "u1", "=a 0.1@0", "=c 0.2@0", "=d 1.2@0", "=b c8", "? 3 a:0 c:3 d:9", "d0", "=d 1.2@1", "=a 0.1@1")
	// Each of two nodes has what the other one has not; both together have all.
	wantClusterTale(t, setup(2, 2), "d0", "+a 0.1@1", "d1", "u0", "+b 1.1@0", "=a c14", "=b 1.1@0", "? c14", "d0", "u1", "=a 0.1@1", "=b c14", "? c14", "u0", "=a 0.1@0", "=b 1.1@0", "? 2 a:1 b:4", "d1", "? 2 a:1 b:4", "d0", "u1", "? 2 a:1 b:4", "=b 1.1@1")
	wantClusterTale(t, setup(8, 2), "+a 4.1@0", "+b 5.1@0", "d0", "-a 4.2@1", "d1", "u0", "=a c14", "=i c14", "=b 5.1@0", "=c c8", "? c14", "u1", "=a c8", "? 1 b:1")
}

// A node that is down already may be told so, and one that is up: nothing comes of
// that, also where it would change something if the node came up.
func TestClusterOfNodesThatAreSoAlready(t *testing.T) {
	wantClusterTale(t, setup(1, 2), "u0", "u1", "+a 0.1@0", "d0", "d0", "+b 0.2@1", "d0", "u1", "=b 0.2@1", "u0", "u0", "=b 0.2@0", "d1", "d1", "u0", "+c 0.3@0", "u1", "d0", "=c 0.3@1", "? 3 a:2 b:5 c:15")
	wantClusterTale(t, setup(1, 2), "d0", "+a 0.1@1", "d1", "u0", "u0", "? c14", "d1", "u0", "? c14", "u1", "u1", "? 1 a:1")
}

// All nodes go down one by one, in every order, and come up in every order, with a
// put, a delete or nothing between: of four nodes the copies in step, and so the
// head, are told by which one was the last that was up at a write.
func TestClusterOfEveryOrderOfNodes(t *testing.T) {
	for copies := 1; copies <= 4; copies++ {
		everyOrder(copies, func(downs []int) {
			everyOrder(copies, func(ups []int) {
				for _, between := range []string{"", "+a +b ", "+a -a ", "=a ? "} {
					text := "+a +b +c "
					for _, k := range downs {
						text += fmt.Sprint("d", k, " ", between)
					}
					for _, k := range ups {
						text += fmt.Sprint("u", k, " =a =b ? ")
					}
					text += "+a ? "
					wantSameCluster(t, small(), setup(2, copies), clusterOps(t, text))
				}
			})
		})
	}
}

// The head's node is the first that goes down, over and over, and the last that
// comes up: what was put last is there from then on, and not ahead of it.
func TestClusterComesBackWithTheLastHead(t *testing.T) {
	everyOrder(4, func(order []int) {
		text := "+a "
		for _, k := range order {
			text += fmt.Sprint("d", k, " +a ")
		}
		head := order[3] // all others went down ahead of a put
		ops := clusterOps(t, text)
		for _, k := range order {
			ops = append(ops, nodeUp(k), fetches("a"), seeksAll())
		}
		list := mustCluster(t, small(), setup(1, 4), ops)
		if o := list[6]; clusterText(o) != "0.4@"+fmt.Sprint(head) {
			t.Errorf("%v: the put with one node: %s", order, clusterText(o))
		}
		for i, o := range list[9:] {
			want := ""
			if i%3 > 0 {
				want = "c14"
			}
			if i > 9 {
				want = []string{"0.4@0", "1 a:6"}[i-10]
			}
			if told := clusterText(o); told != want {
				t.Errorf("%v, operation %d behind the last put: %s, want %q", order, i, told, want)
			}
		}
		wantSameCluster(t, small(), setup(1, 4), ops)
	})
}

// Each set of nodes that is down at each of three puts.
func TestClusterOfEachSetOfNodes(t *testing.T) {
	const copies = 3
	for mask := range 1 << (3 * copies) {
		text := ""
		for step := range 3 {
			for k := range copies {
				word := "u"
				if mask>>(step*copies+k)&1 == 1 {
					word = "d"
				}
				text += fmt.Sprint(word, k, " ")
			}
			text += []string{"+a +b ", "+a -b ", "-a +c "}[step]
		}
		wantSameCluster(t, small(), setup(1, copies), clusterOps(t, text+"=a ? u0 =a ? u2 =b ? u1 =c ? d0 ? d1 ?"))
	}
}

// Copies of nodes that have come up have all that a search asks for, also where one
// was asked ahead of it.
func TestClusterSearchesWhatACopyGot(t *testing.T) {
	ask := impl.Ask{Query: queryOf(t, "cat dog^2 tag:red"), Size: 9}
	docs := sceneDocs()
	var ops []impl.ClusterOp
	for i, d := range docs {
		ops = append(ops, nodeDown(i%3), places(d), seeks(ask), nodeUp(i%3), seeks(ask))
	}
	for shards := 1; shards <= 8; shards++ {
		list := mustCluster(t, scene(), setup(shards, 3), ops)
		for i := range docs {
			want := mustSearch(t, scene(), oneSegment(docs[:i+1]), ask)
			for _, o := range []impl.ClusterObs{list[5*i+2], list[5*i+4]} {
				if o.Code != impl.OK || !sameResult(o.Result, want) {
					t.Errorf("%d shards, %d documents: %s, want %s", shards, i+1, shortClusterObs(o), shortResult(want))
				}
			}
		}
		wantSameCluster(t, scene(), setup(shards, 3), ops)
	}
}

// Nodes come and go with nothing there.
func TestClusterOfNodesAlone(t *testing.T) {
	every([]string{"d0 ", "d1 ", "u0 ", "u1 ", "? "}, 5, func(text string) {
		wantSameCluster(t, small(), setup(1, 2), clusterOps(t, text+"? =a +a"))
	})
	wantSameCluster(t, small(), setup(8, 4), clusterOps(t, strings.Repeat("d0 d1 d2 d3 u3 u2 u1 u0 ", 25)))
}
