package tests

import (
	"fmt"
	"math/rand"
	"slices"
	"strconv"
	"strings"
	"testing"

	"loop.example/g00018/impl"
)

// What the document says of shards and copies, told a second time: a shard is all
// that was ever written there, and a copy is how many of these writes it has done.
// It is in step if it has done them all; what it holds is told by doing them anew.
// Behind a split both halves have all that was written in the old shard, and hold
// of that what is routed to them now.

type clusterWrite struct {
	id      string
	doc     impl.Doc
	removes bool
}

type shardTelling struct {
	writes []clusterWrite
	done   []int // by node
}

type clusterTelling struct {
	s      impl.Schema
	search searching
	up     []bool
	shards []shardTelling
}

func routeOf(id string, shards int) int {
	if shards < 1 || shards > 8 || len(id) > 65536 {
		return -1
	}
	return knownSum([]byte(id)) % shards
}

func newClusterTelling(s impl.Schema, c impl.ClusterSetup, search searching) *clusterTelling {
	x := &clusterTelling{s: s, search: search, up: slices.Repeat([]bool{true}, c.Copies)}
	for range c.Shards {
		x.shards = append(x.shards, shardTelling{done: make([]int, c.Copies)})
	}
	return x
}

func (x *clusterTelling) inStep(at, node int) bool {
	return x.shards[at].done[node] == len(x.shards[at].writes)
}

// headOf tells -1 if there is none.
func (x *clusterTelling) headOf(at int) int {
	for node, up := range x.up {
		if up && x.inStep(at, node) {
			return node
		}
	}
	return -1
}

// held tells the documents of a copy, and the Seqs by which they came.
func (x *clusterTelling) held(at, node int) (docs []impl.Doc, seqs []int) {
	writes := x.shards[at].writes[:x.shards[at].done[node]]
	for i, w := range writes {
		later := func(other clusterWrite) bool { return other.id == w.id }
		if !w.removes && !slices.ContainsFunc(writes[i+1:], later) && routeOf(w.id, len(x.shards)) == at {
			docs, seqs = append(docs, w.doc), append(seqs, i+1)
		}
	}
	return docs, seqs
}

func (x *clusterTelling) written(at, head int, w clusterWrite) impl.ClusterObs {
	reached := []int{}
	for node, up := range x.up {
		if up && x.inStep(at, node) {
			reached = append(reached, node)
		}
	}
	s := &x.shards[at]
	s.writes = append(slices.Clone(s.writes), w)
	for _, node := range reached {
		s.done[node]++
	}
	return impl.ClusterObs{Shard: at, Seq: len(s.writes), Node: head}
}

// onDoc is for a put, a delete and a get.
func (x *clusterTelling) onDoc(op impl.ClusterOp) impl.ClusterObs {
	id := op.Id
	if op.Kind == 1 {
		id = op.Doc.Id
	}
	at := routeOf(id, len(x.shards))
	head := x.headOf(at)
	if head < 0 {
		return impl.ClusterObs{Code: impl.ErrDown}
	}
	if op.Kind == 1 {
		return x.written(at, head, clusterWrite{id: id, doc: op.Doc})
	}
	docs, seqs := x.held(at, head)
	place := slices.IndexFunc(docs, func(d impl.Doc) bool { return d.Id == id })
	switch {
	case place < 0:
		return impl.ClusterObs{Code: impl.ErrMissing}
	case op.Kind == 2:
		return x.written(at, head, clusterWrite{id: id, removes: true})
	}
	return impl.ClusterObs{Shard: at, Seq: seqs[place], Node: head}
}

func (x *clusterTelling) searched(a impl.Ask) impl.ClusterObs {
	var segs [][]impl.Doc
	for at := range x.shards {
		head := x.headOf(at)
		if head < 0 {
			return impl.ClusterObs{Code: impl.ErrDown}
		}
		docs, _ := x.held(at, head)
		segs = append(segs, docs)
	}
	result, code := x.search(x.s, segs, a)
	return impl.ClusterObs{Code: code, Result: result}
}

func (x *clusterTelling) comesUp(node int) {
	if x.up[node] {
		return
	}
	x.up[node] = true
	for at, s := range x.shards {
		for other, up := range x.up {
			if x.headOf(at) >= 0 && up {
				s.done[other] = len(s.writes)
			}
		}
	}
}

func (x *clusterTelling) splits() int {
	if len(x.shards) > 4 {
		return impl.ErrRange
	}
	for at := range x.shards {
		for node, up := range x.up {
			if !up || !x.inStep(at, node) {
				return impl.ErrDown
			}
		}
	}
	x.shards = append(x.shards, copyShards(x.shards)...)
	return impl.OK
}

func copyShards(list []shardTelling) []shardTelling {
	list = slices.Clone(list)
	for i := range list {
		list[i].done = slices.Clone(list[i].done)
	}
	return list
}

func (x *clusterTelling) do(op impl.ClusterOp) impl.ClusterObs {
	wrongId := (op.Kind == 2 || op.Kind == 3) && !idForm.MatchString(op.Id)
	wrongNode := (op.Kind == 5 || op.Kind == 6) && (op.Node < 0 || op.Node >= len(x.up))
	o := impl.ClusterObs{}
	switch {
	case op.Kind < 1 || op.Kind > 7 || wrongId || op.Kind == 1 && !rightDoc(x.s, op.Doc):
		o.Code = impl.ErrBad
	case wrongNode:
		o.Code = impl.ErrRange
	case op.Kind < 4:
		o = x.onDoc(op)
	case op.Kind == 4:
		o = x.searched(op.Ask)
	case op.Kind == 5:
		x.up[op.Node] = false
	case op.Kind == 6:
		x.comesUp(op.Node)
	default:
		o.Code = x.splits()
	}
	return o
}

func clusterOf(s impl.Schema, c impl.ClusterSetup, search searching, ops []impl.ClusterOp) ([]impl.ClusterObs, int) {
	if len(ops) > 200 {
		return nil, impl.ErrMany
	}
	if !rightSchema(s) || c.Shards < 1 || c.Shards > 8 || c.Copies < 1 || c.Copies > 4 {
		return nil, impl.ErrBad
	}
	x := newClusterTelling(s, c, search)
	var list []impl.ClusterObs
	for _, op := range ops {
		list = append(list, x.do(op))
	}
	return list, impl.OK
}

func sameClusterObs(o, want impl.ClusterObs) bool {
	return o.Code == want.Code && o.Shard == want.Shard && o.Seq == want.Seq && o.Node == want.Node && sameResult(o.Result, want.Result)
}

func shortClusterOp(op impl.ClusterOp) string {
	return cutOff(fmt.Sprintf("%+v", op))
}

func shortClusterObs(o impl.ClusterObs) string {
	return cutOff(fmt.Sprintf("%+v", o))
}

func wantCluster(t *testing.T, s impl.Schema, c impl.ClusterSetup, ops []impl.ClusterOp, want []impl.ClusterObs, wantCode int) {
	t.Helper()
	list, code := impl.ClusterRun(s, c, ops)
	if code != wantCode || len(list) != len(want) {
		t.Errorf("ClusterRun of %d operations, %+v: %d answers, code %d, want %d, code %d", len(ops), c, len(list), code, len(want), wantCode)
		return
	}
	for i, o := range list {
		if !sameClusterObs(o, want[i]) {
			t.Errorf("%+v, operation %d of %d, %s: %s, want %s", c, i, len(ops), shortClusterOp(ops[i]), shortClusterObs(o), shortClusterObs(want[i]))
			return
		}
	}
}

// wantSameCluster holds a run against the document's words.
func wantSameCluster(t *testing.T, s impl.Schema, c impl.ClusterSetup, ops []impl.ClusterOp) {
	t.Helper()
	want, code := clusterOf(s, c, searchOf, ops)
	wantCluster(t, s, c, ops, want, code)
}

// mustCluster is for what can be run.
func mustCluster(t *testing.T, s impl.Schema, c impl.ClusterSetup, ops []impl.ClusterOp) []impl.ClusterObs {
	t.Helper()
	list, code := impl.ClusterRun(s, c, ops)
	if code != impl.OK || len(list) != len(ops) {
		t.Fatalf("ClusterRun of %d operations, %+v: %d answers, code %d", len(ops), c, len(list), code)
	}
	return list
}

func setup(shards, copies int) impl.ClusterSetup {
	return impl.ClusterSetup{Shards: shards, Copies: copies}
}

// setups are all that may be.
func setups() []impl.ClusterSetup {
	var list []impl.ClusterSetup
	for shards := 1; shards <= impl.MaxShards; shards++ {
		for copies := 1; copies <= impl.MaxCopies; copies++ {
			list = append(list, setup(shards, copies))
		}
	}
	return list
}

func places(d impl.Doc) impl.ClusterOp  { return impl.ClusterOp{Kind: impl.CPut, Doc: d} }
func takes(id string) impl.ClusterOp    { return impl.ClusterOp{Kind: impl.CDelete, Id: id} }
func fetches(id string) impl.ClusterOp  { return impl.ClusterOp{Kind: impl.CGet, Id: id} }
func seeks(a impl.Ask) impl.ClusterOp   { return impl.ClusterOp{Kind: impl.CSearch, Ask: a} }
func nodeDown(node int) impl.ClusterOp  { return impl.ClusterOp{Kind: impl.CNodeDown, Node: node} }
func nodeUp(node int) impl.ClusterOp    { return impl.ClusterOp{Kind: impl.CNodeUp, Node: node} }
func splitsAll() impl.ClusterOp         { return impl.ClusterOp{Kind: impl.CSplit} }
func seeksAll() impl.ClusterOp          { return seeks(allSorted()) }
func isWrite(op impl.ClusterOp) bool    { return op.Kind == impl.CPut || op.Kind == impl.CDelete }
func isNodeKind(op impl.ClusterOp) bool { return op.Kind == impl.CNodeDown || op.Kind == impl.CNodeUp }
func writtenId(op impl.ClusterOp) string {
	return map[bool]string{true: op.Doc.Id, false: op.Id}[op.Kind == impl.CPut]
}

// clusterOpOf tells the operation of a word, on documents of small: +a is a put, -a
// a delete, =a a get, ? a search for all documents, d0 a node that goes down, u0
// one that comes up, / a split. A document has the number of its operation in n,
// and a search tells it as its key.
func clusterOpOf(t *testing.T, number int, word string) impl.ClusterOp {
	t.Helper()
	rest := word[1:]
	node, _ := strconv.Atoi(rest)
	switch word[0] {
	case '+':
		return places(docWith(rest, numbersIn("n", number)))
	case '-':
		return takes(rest)
	case '=':
		return fetches(rest)
	case '?':
		return seeksAll()
	case 'd':
		return nodeDown(node)
	case 'u':
		return nodeUp(node)
	case '/':
		return splitsAll()
	}
	t.Fatalf("%s is no operation", word)
	return impl.ClusterOp{}
}

func clusterOps(t *testing.T, text string) []impl.ClusterOp {
	t.Helper()
	var ops []impl.ClusterOp
	for i, word := range strings.Fields(text) {
		ops = append(ops, clusterOpOf(t, i, word))
	}
	return ops
}

// clusterText tells a code that is not 0; Shard, Seq and Node, if one of them is
// not; how many were found, and their ids with their keys.
func clusterText(o impl.ClusterObs) string {
	var words []string
	if o.Code != 0 {
		words = append(words, fmt.Sprint("c", o.Code))
	}
	if o.Shard != 0 || o.Seq != 0 || o.Node != 0 {
		words = append(words, fmt.Sprintf("%d.%d@%d", o.Shard, o.Seq, o.Node))
	}
	if o.Result.Total != 0 {
		words = append(words, fmt.Sprint(o.Result.Total))
	}
	for _, f := range o.Result.Hits {
		words = append(words, fmt.Sprint(f.Id, ":", f.Keys[0]))
	}
	return strings.Join(words, " ")
}

// wantClusterTale takes lines of which each is the word of an operation and, behind
// a blank, what it tells.
func wantClusterTale(t *testing.T, c impl.ClusterSetup, lines ...string) {
	t.Helper()
	var ops []impl.ClusterOp
	var want []string
	for i, line := range lines {
		word, told, _ := strings.Cut(line, " ")
		ops = append(ops, clusterOpOf(t, i, word))
		want = append(want, told)
	}
	for i, o := range mustCluster(t, small(), c, ops) {
		if told := clusterText(o); told != want[i] {
			t.Errorf("%+v, operation %d, %s: %s", c, i, lines[i], told)
		}
	}
	wantSameCluster(t, small(), c, ops)
}

// randomClusterOp picks from few ids, so that they meet each other, and from nodes
// about those that there are.
func randomClusterOp(source *rand.Rand, x *clusterTelling) impl.ClusterOp {
	op := impl.ClusterOp{Id: string(rune('a' + source.Intn(12)))}
	op.Kind = []int{1, 1, 1, 1, 1, 1, 2, 2, 2, 3, 3, 3, 4, 4, 4, 5, 5, 6, 6, 6, 7, 8}[source.Intn(22)]
	op.Node = source.Intn(len(x.up))
	if source.Intn(15) == 0 {
		op.Node = []int{-1, len(x.up), 99}[source.Intn(3)]
	}
	if op.Kind == impl.CSplit && source.Intn(4) > 0 { // few are enough
		op.Kind = impl.CNodeUp
	}
	op.Doc = randomSceneDoc(source, op.Id)
	switch source.Intn(25) {
	case 0:
		op.Doc = wrongDocs()[source.Intn(len(wrongDocs()))]
	case 1:
		op.Id = []string{"", "a b", strings.Repeat("x", 31), "none"}[source.Intn(4)]
	}
	op.Ask = impl.Ask{Query: randomSceneBranch(source, 3).query(), From: source.Intn(2), Size: source.Intn(12), Sort: randomKeys(source)}
	if source.Intn(3) == 0 {
		op.Ask.Collapse = []string{"tag", "tag", "n"}[source.Intn(3)]
	}
	return op
}

// randomCluster tells operations on scene, and what the second telling says of
// them.
func randomCluster(source *rand.Rand, c impl.ClusterSetup, search searching, n int) ([]impl.ClusterOp, []impl.ClusterObs) {
	x := newClusterTelling(scene(), c, search)
	var ops []impl.ClusterOp
	var told []impl.ClusterObs
	for range n {
		op := randomClusterOp(source, x)
		ops = append(ops, op)
		told = append(told, x.do(op))
	}
	return ops, told
}

func randomSetup(source *rand.Rand) impl.ClusterSetup {
	return setup(1+source.Intn(impl.MaxShards), 1+source.Intn(impl.MaxCopies))
}
