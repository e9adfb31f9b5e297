package tests

import (
	"math"
	"slices"
	"strings"
	"testing"

	"loop.example/g00018/impl"
)

func TestClusterOfWrongSchemas(t *testing.T) {
	long := textField("t", impl.Analyzer{Stops: slices.Repeat([]string{"x"}, 65)})
	many := slices.Repeat([]impl.ClusterOp{nodeUp(0)}, 201)
	for _, s := range []impl.Schema{{}, schemaOf(wordField("")), schemaOf(wordField("b"), wordField("a")), schemaOf(wordField("a"), wordField("a")), schemaOf(impl.FieldDef{Name: "a"}), schemaOf(impl.FieldDef{Name: "a", Kind: 4}), schemaOf(long), manyFields(17), schemaOf(impl.FieldDef{Name: "a", Kind: impl.KWord, Analyzer: impl.Analyzer{Fold: true}})} {
		if rightSchema(s) {
			t.Fatalf("the second telling takes %s", shortSchema(s))
		}
		for _, c := range []impl.ClusterSetup{setup(1, 1), setup(8, 4), setup(0, 1), setup(1, 5), {}} {
			for _, ops := range [][]impl.ClusterOp{nil, {}, {nodeUp(0)}, {places(docWith("a"))}, {{Kind: 99}}, {seeksAll(), splitsAll()}, many[:200]} {
				wantCluster(t, s, c, ops, nil, impl.ErrBad)
			}
			// Too many operations count ahead of the schema, and of the setup.
			wantCluster(t, s, c, many, nil, impl.ErrMany)
		}
	}
	wantCluster(t, small(), setup(0, 0), many, nil, impl.ErrMany)
	wantCluster(t, small(), setup(9, 5), many[:200], nil, impl.ErrBad)
	wantSameCluster(t, manyFields(16), setup(3, 2), []impl.ClusterOp{places(docWith("a")), places(docWith("b", textsIn("faa", "cat"))), seeks(impl.Ask{Query: queryOf(t, "* cat"), Size: 9})})
}

// A document that isn't valid is not put, whether its id is there or not, and
// whether its shard has a head or not.
func TestClusterOfWrongDocs(t *testing.T) {
	for _, d := range wrongDocs() {
		if rightDoc(scene(), d) {
			t.Fatalf("the second telling takes %s", shortDoc(d))
		}
		for _, c := range []impl.ClusterSetup{setup(1, 1), setup(3, 2), setup(8, 4)} {
			ops := []impl.ClusterOp{places(d), places(docWith("x", textsIn("tag", "red"))), places(d), fetches("x"), seeks(impl.Ask{Query: queryOf(t, "tag:red"), Size: 9})}
			for node := range c.Copies {
				ops = append(ops, nodeDown(node))
			}
			ops = append(ops, places(d))
			wantSameCluster(t, scene(), c, ops)
			list := mustCluster(t, scene(), c, ops)
			for _, i := range []int{0, 2, len(ops) - 1} {
				if !sameClusterObs(list[i], impl.ClusterObs{Code: impl.ErrBad}) {
					t.Errorf("%s, operation %d: %s", shortDoc(d), i, shortClusterObs(list[i]))
				}
			}
			if list[3].Seq != 1 || toldIds(list[4].Result.Hits) != "x" {
				t.Errorf("%s: %s, %s", shortDoc(d), shortClusterObs(list[3]), shortClusterObs(list[4]))
			}
		}
	}
	// A document of one schema is none of another.
	wantCluster(t, small(), setup(1, 1), []impl.ClusterOp{places(docWith("a", textsIn("tag", "red"))), places(docWith("a", textsIn("w", "red")))}, []impl.ClusterObs{{Code: impl.ErrBad}, {Seq: 1}}, impl.OK)
}

// An Id that no document may have is ErrBad, with a head and without one; one that
// a document may have, but none has, is ErrMissing.
func TestClusterOfWrongIds(t *testing.T) {
	wrong := []string{"", " ", "a ", " a", "a b", "\x00", "a\x00", "\x7f", "\x1f", "\xff", "\u00e9", strings.Repeat("a", 31), strings.Repeat("a", 65536), strings.Repeat("a", 65537), strings.Repeat("a", 1<<22)}
	for _, id := range append(wrong, "A", "aa", "!", "~", strings.Repeat("a", 30)) {
		missing := impl.ErrMissing
		if slices.Contains(wrong, id) {
			missing = impl.ErrBad
		}
		for _, c := range []impl.ClusterSetup{setup(1, 1), setup(2, 1), setup(8, 1)} {
			ops := append(clusterOps(t, "+a"), takes(id), fetches(id), fetches("a"), nodeDown(0), takes(id), fetches(id), nodeUp(0), takes("a"), takes(id), fetches(id))
			wantSameCluster(t, small(), c, ops)
			list := mustCluster(t, small(), c, ops)
			down := impl.ErrDown
			if missing == impl.ErrBad {
				down = impl.ErrBad
			}
			for i, want := range map[int]int{1: missing, 2: missing, 5: down, 6: down, 9: missing, 10: missing} {
				if !sameClusterObs(list[i], impl.ClusterObs{Code: want}) {
					t.Errorf("%s, operation %d: %s, want code %d", short(id), i, shortClusterObs(list[i]), want)
				}
			}
			if list[3].Seq != 1 || list[8].Seq != 2 {
				t.Errorf("%s: %s, then %s", short(id), shortClusterObs(list[3]), shortClusterObs(list[8]))
			}
		}
	}
}

func TestClusterOfWrongKinds(t *testing.T) {
	for _, kind := range []int{math.MinInt, -7, -6, -1, 0, 8, 9, 100, 1<<8 + 1, 1 << 32, 1<<32 + 1, 1<<32 + 7, math.MaxInt} {
		full := impl.ClusterOp{Kind: kind, Node: 0, Id: "a", Doc: docWith("b"), Ask: allSorted()}
		far := impl.ClusterOp{Kind: kind, Node: 9, Ask: impl.Ask{Size: -1}}
		ops := append(clusterOps(t, "+a"), full, impl.ClusterOp{Kind: kind}, far, seeksAll(), nodeDown(0), full, far, nodeUp(0), fetches("a"))
		wantSameCluster(t, small(), setup(1, 1), ops)
		list := mustCluster(t, small(), setup(1, 1), ops)
		for _, i := range []int{1, 2, 3, 6, 7} {
			if !sameClusterObs(list[i], impl.ClusterObs{Code: impl.ErrBad}) {
				t.Errorf("kind %d, operation %d: %s", kind, i, shortClusterObs(list[i]))
			}
		}
		if clusterText(list[4]) != "1 a:0" || clusterText(list[9]) != "0.1@0" {
			t.Errorf("kind %d: %s, %s", kind, clusterText(list[4]), clusterText(list[9]))
		}
	}
}

// What a search has a code for, of some documents and of none.
func TestClusterOfWrongAsks(t *testing.T) {
	all := queryOf(t, "*")
	asks := []impl.Ask{{}, {Query: all, From: -1}, {Query: all, From: 1001}, {Query: all, Size: -1}, {Query: all, Size: 1001}, {Query: all, Size: math.MaxInt, From: math.MaxInt}, {Query: all, Sort: up("n", "n", "n", "n", "n")}, {Query: all, Sort: up("none")}, {Query: all, Sort: up("body")}, {Query: all, Sort: up("tag")}, {Query: all, Collapse: "none"}, {Query: all, Collapse: "n"}, {Query: all, Collapse: "body"}, {Query: all, Behind: true, Last: last("a", 1, 2)}, {Query: all, Sort: up("n"), Behind: true}, {Query: queryOf(t, "none:x")}, {Query: queryOf(t, "cat -(bod:x)")}}
	for _, b := range wrongBranches() {
		asks = append(asks, impl.Ask{Query: b.query(), Size: 9}, impl.Ask{Query: b.query(), Size: -1, Collapse: "none"})
	}
	for i, a := range asks {
		code := searchCode(scene(), nil, a)
		if code == impl.OK {
			t.Fatalf("the second telling takes %s", shortAsk(a))
		}
		c := setup(1+i%8, 1)
		ops := []impl.ClusterOp{seeks(a), places(sceneDocs()[0]), seeks(a), nodeDown(0), seeks(a), nodeUp(0), seeks(a), splitsAll(), seeks(a), takes("d1"), seeks(a)}
		wantSameCluster(t, scene(), c, ops)
		list := mustCluster(t, scene(), c, ops)
		for place, want := range map[int]int{0: code, 2: code, 4: impl.ErrDown, 6: code, 8: code, 10: code} {
			if !sameClusterObs(list[place], impl.ClusterObs{Code: want}) {
				t.Errorf("%+v, operation %d, %s: %s, want code %d", c, place, shortAsk(a), shortClusterObs(list[place]), want)
			}
		}
	}
}

// Each two things that are wrong with an ask: the first one counts, as in Search.
func TestClusterOfAsksWithTwoFaults(t *testing.T) {
	for i, first := range searchFaults() {
		for _, second := range searchFaults()[i:] {
			s, segs := scene(), cutAt(sceneDocs(), 3)
			a := impl.Ask{Query: queryOf(t, "cat (plain:dog body:cat)"), From: 1, Size: 5, Sort: append(up("n"), down("year")...), Collapse: "tag", Behind: true, Last: last("a", 9999, 1, 2)}
			first.apply(&s, &segs, &a)
			second.apply(&s, &segs, &a)
			var ops []impl.ClusterOp
			for _, d := range sceneDocs() {
				ops = append(ops, places(d))
			}
			ops = append(ops, seeks(a))
			c := setup(1+i%8, 2)
			wantSameCluster(t, scene(), c, ops)
			list := mustCluster(t, scene(), c, ops)
			if o := list[len(ops)-1]; o.Code != searchCode(scene(), oneSegment(sceneDocs()), a) || o.Code != impl.OK && o.Result.Total != 0 {
				t.Errorf("%s: %s", shortAsk(a), shortClusterObs(o))
			}
		}
	}
}

// Two faults of one operation: what is wrong with it counts ahead of a shard that
// has no head, and that ahead of a document that is not there.
func TestClusterOfTwoFaults(t *testing.T) {
	bad := docWith("a", textsIn("none", "x"))
	down := clusterOps(t, "+a d0 +b d1 u0")
	for _, c := range []struct {
		op   impl.ClusterOp
		code int
	}{
		{places(bad), impl.ErrBad}, {places(impl.Doc{}), impl.ErrBad}, {places(docWith("a")), impl.ErrDown}, {places(docWith("none")), impl.ErrDown},
		{takes(""), impl.ErrBad}, {takes("a b"), impl.ErrBad}, {takes("none"), impl.ErrDown}, {takes("a"), impl.ErrDown},
		{fetches(""), impl.ErrBad}, {fetches("\xff"), impl.ErrBad}, {fetches("none"), impl.ErrDown}, {fetches("a"), impl.ErrDown},
		{seeks(impl.Ask{}), impl.ErrDown}, {seeks(impl.Ask{Query: queryOf(t, "none:x"), Size: -1}), impl.ErrDown}, {seeksAll(), impl.ErrDown},
		{nodeDown(2), impl.ErrRange}, {nodeUp(-1), impl.ErrRange}, {nodeDown(1), impl.OK}, {nodeUp(0), impl.OK}, {splitsAll(), impl.ErrDown}, {impl.ClusterOp{}, impl.ErrBad}, {impl.ClusterOp{Kind: 8, Node: 9}, impl.ErrBad},
	} {
		// All is in the one shard, of which no copy in step is on a node that is up.
		ops := append(down[:5:5], c.op, nodeUp(1), fetches("a"), fetches("b"), seeksAll())
		wantSameCluster(t, small(), setup(1, 2), ops)
		list := mustCluster(t, small(), setup(1, 2), ops)
		if !sameClusterObs(list[5], impl.ClusterObs{Code: c.code}) {
			t.Errorf("%s: %s, want code %d", shortClusterOp(c.op), shortClusterObs(list[5]), c.code)
		}
		if clusterText(list[7]) != "0.1@0" || clusterText(list[8]) != "0.2@0" || clusterText(list[9]) != "2 a:0 b:2" {
			t.Errorf("behind %s: %s, %s, %s", shortClusterOp(c.op), clusterText(list[7]), clusterText(list[8]), clusterText(list[9]))
		}
	}
	// Of a split too many shards count ahead of a node that is down.
	for shards := 1; shards <= 8; shards++ {
		want := impl.ErrDown
		if shards > 4 {
			want = impl.ErrRange
		}
		wantCluster(t, small(), setup(shards, 1), []impl.ClusterOp{nodeDown(0), splitsAll()}, []impl.ClusterObs{{}, {Code: want}}, impl.OK)
	}
}

// What its kind does not look at makes an operation no other.
func TestClusterOfFilledOperations(t *testing.T) {
	rubbish := []impl.ClusterOp{
		{Node: -9, Id: "a b", Doc: docWith("", textsIn("none", "\xff")), Ask: impl.Ask{Size: -1}},
		{Node: 1, Id: "a", Doc: docWith("a"), Ask: impl.Ask{Query: queryOf(t, "*"), Size: 9}},
		{Node: 0, Id: "b", Doc: docWith("b", numbersIn("n", 7)), Ask: impl.Ask{Query: queryOf(t, "none:x"), Behind: true, Last: last("a", 1, 2, 3)}},
		{Node: math.MaxInt, Id: strings.Repeat("x", 1<<20), Doc: docWith(strings.Repeat("x", 1<<20)), Ask: impl.Ask{Sort: up("n", "n", "n", "n", "n"), Collapse: "n"}},
	}
	plain := clusterOps(t, "+a +b ? =a d0 +c -a ? =c / u0 =b ? / +d =d d1 d0 ? =a +e u1 ? -b u0 ? -z =b / / ? u3 d3")
	for _, c := range []impl.ClusterSetup{setup(1, 2), setup(2, 2), setup(3, 4)} {
		want := mustCluster(t, small(), c, plain)
		wantSameCluster(t, small(), c, plain)
		for _, other := range rubbish {
			ops := slices.Clone(plain)
			for i, op := range plain {
				filled := other
				filled.Kind = op.Kind
				switch op.Kind {
				case impl.CPut:
					filled.Doc = op.Doc
				case impl.CDelete, impl.CGet:
					filled.Id = op.Id
				case impl.CSearch:
					filled.Ask = op.Ask
				case impl.CNodeDown, impl.CNodeUp:
					filled.Node = op.Node
				}
				ops[i] = filled
			}
			wantCluster(t, small(), c, ops, want, impl.OK)
		}
	}
}

// With a code nothing is done, and nothing else told: what comes behind tells the
// same as without it.
func TestClusterChangesNothingWithACode(t *testing.T) {
	wrong := []impl.ClusterOp{places(docWith("a", textsIn("none", "x"))), places(docWith("a")), places(docWith("b")), takes("none"), takes("a"), takes(""), fetches("none"), fetches("b"), fetches(" "), seeks(impl.Ask{}), seeksAll(), nodeDown(2), nodeUp(-1), splitsAll(), {Kind: 8}, {}}
	plain := clusterOps(t, "+a +b d0 +c -a ? d1 u0 u1 ? +a =a ? d0 d1 u1 =b +b u0 ? =b / ? / / d1 +d d0 u1 =d =a ? u0 ?")
	for _, c := range []impl.ClusterSetup{setup(1, 2), setup(2, 2), setup(4, 2)} {
		want := mustCluster(t, small(), c, plain)
		count := 0
		for at := range len(plain) + 1 {
			for _, more := range wrong {
				ops := slices.Insert(slices.Clone(plain), at, more, more)
				told, _ := clusterOf(small(), c, searchOf, ops)
				if told[at].Code == impl.OK {
					continue // it has no code there
				}
				list := mustCluster(t, small(), c, ops)
				for _, o := range list[at : at+2] {
					if !sameClusterObs(o, impl.ClusterObs{Code: told[at].Code}) {
						t.Errorf("%s at %d: %s", shortClusterOp(more), at, shortClusterObs(o))
					}
				}
				if !slices.EqualFunc(slices.Delete(list, at, at+2), want, sameClusterObs) {
					t.Errorf("%s at %d changes what comes behind", shortClusterOp(more), at)
				}
				count++
			}
		}
		if count < 300 {
			t.Errorf("only %d operations have a code", count)
		}
	}
}
