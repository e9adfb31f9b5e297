package tests

import (
	"fmt"
	"math/rand"
	"slices"
	"strconv"
	"strings"
	"testing"

	"loop.example/g00018/impl"
)

// What the document says of the writer, told a second time: nothing that was put
// is thrown away. A row tells by which operation a document came and by which it
// went, a segment is the numbers of its rows, a reader the number of a refresh; all
// else is counted from the rows each time.

// stillThere is behind the numbers of all operations.
const stillThere = 1 << 30

type writerRow struct {
	doc                 impl.Doc
	version, came, went int
}

type searching func(s impl.Schema, segs [][]impl.Doc, a impl.Ask) (impl.Result, int)

type writerTelling struct {
	s        impl.Schema
	search   searching
	rows     []writerRow
	segments [][]int
	placed   int // so many rows are in a segment, or were gone ahead of that
	now      int // the number of the operation, from 1 on
	version  int
	refresh  int   // the last one, 0 ahead of the first
	readers  []int // the refresh that each is opened behind, -1 once it is closed
}

func (w *writerTelling) docsAt(time int) []impl.Doc {
	var docs []impl.Doc
	for _, r := range w.rows {
		if r.came <= time && time < r.went {
			docs = append(docs, r.doc)
		}
	}
	return docs
}

// held tells the row of the document that is there, or nil.
func (w *writerTelling) held(id string) *writerRow {
	for i, r := range w.rows {
		if r.doc.Id == id && r.went == stillThere {
			return &w.rows[i]
		}
	}
	return nil
}

func (w *writerTelling) left(rows []int) []int {
	return slices.DeleteFunc(slices.Clone(rows), func(i int) bool { return w.rows[i].went != stillThere })
}

func (w *writerTelling) changeCode(op impl.IndexOp, id string) int {
	there := w.held(id)
	switch {
	case op.Kind == impl.WPut && !rightDoc(w.s, op.Doc), op.Version < -1, op.Kind == impl.WDelete && op.Version == -1:
		return impl.ErrBad
	case op.Version == -1 && there != nil:
		return impl.ErrExists
	case there == nil && (op.Version > 0 || op.Kind == impl.WDelete):
		return impl.ErrMissing
	case op.Version > 0 && there.version != op.Version:
		return impl.ErrVersion
	}
	return impl.OK
}

func (w *writerTelling) changed(op impl.IndexOp, id string) impl.IndexObs {
	if code := w.changeCode(op, id); code != impl.OK {
		return impl.IndexObs{Code: code}
	}
	w.version++
	if r := w.held(id); r != nil {
		r.went = w.now
	}
	if op.Kind == impl.WPut {
		w.rows = append(w.rows, writerRow{op.Doc, w.version, w.now, stillThere})
	}
	return impl.IndexObs{Version: w.version}
}

func (w *writerTelling) refreshes() {
	var fresh []int
	for i := w.placed; i < len(w.rows); i++ {
		fresh = append(fresh, i)
	}
	w.placed, w.refresh = len(w.rows), w.now
	var kept [][]int
	for _, rows := range append(w.segments, fresh) {
		if len(w.left(rows)) > 0 {
			kept = append(kept, rows)
		}
	}
	for len(kept) > 4 {
		sums := map[int]int{} // the first two with each number of documents
		for i := len(kept) - 2; i >= 0; i-- {
			sums[len(w.left(kept[i]))+len(w.left(kept[i+1]))] = i
		}
		at, found := 0, false
		for least := 2; !found; least++ {
			at, found = sums[least]
		}
		kept[at] = slices.Concat(kept[at], kept[at+1])
		kept = slices.Delete(kept, at+1, at+2)
	}
	w.segments = kept
}

func (w *writerTelling) isOpen(reader int) bool {
	return reader > 0 && reader <= len(w.readers) && w.readers[reader-1] >= 0
}

func (w *writerTelling) do(op impl.IndexOp) impl.IndexObs {
	w.now++
	o := impl.IndexObs{}
	switch op.Kind {
	case 1:
		o = w.changed(op, op.Doc.Id)
	case 2:
		o = w.changed(op, op.Id)
	case 3:
		w.refreshes()
	case 4:
		w.readers = append(w.readers, w.refresh)
		o.Reader = len(w.readers)
	case 5, 6:
		if !w.isOpen(op.Reader) {
			o.Code = impl.ErrClosed
		} else if op.Kind == 5 {
			w.readers[op.Reader-1] = -1
		} else {
			o.Result, o.Code = w.search(w.s, oneSegment(w.docsAt(w.readers[op.Reader-1])), op.Ask)
		}
	case 7:
		if r := w.held(op.Id); r != nil {
			o.Version = r.version
		} else {
			o.Code = impl.ErrMissing
		}
	default:
		o.Code = impl.ErrBad
	}
	o.Live, o.Segments = len(w.docsAt(w.now)), len(w.segments)
	return o
}

func runOf(s impl.Schema, search searching, ops []impl.IndexOp) ([]impl.IndexObs, int) {
	if len(ops) > 200 {
		return nil, impl.ErrMany
	}
	if !rightSchema(s) {
		return nil, impl.ErrBad
	}
	w := &writerTelling{s: s, search: search}
	var list []impl.IndexObs
	for _, op := range ops {
		list = append(list, w.do(op))
	}
	return list, impl.OK
}

func sameObs(o, want impl.IndexObs) bool {
	return o.Code == want.Code && o.Version == want.Version && o.Live == want.Live && o.Segments == want.Segments && o.Reader == want.Reader && sameResult(o.Result, want.Result)
}

func shortOp(op impl.IndexOp) string {
	return cutOff(fmt.Sprintf("%+v", op))
}

func shortObs(o impl.IndexObs) string {
	return cutOff(fmt.Sprintf("%+v", o))
}

func wantRun(t *testing.T, s impl.Schema, ops []impl.IndexOp, want []impl.IndexObs, wantCode int) {
	t.Helper()
	list, code := impl.IndexRun(s, ops)
	if code != wantCode || len(list) != len(want) {
		t.Errorf("IndexRun of %d operations: %d answers, code %d, want %d, code %d", len(ops), len(list), code, len(want), wantCode)
		return
	}
	for i, o := range list {
		if !sameObs(o, want[i]) {
			t.Errorf("operation %d of %d, %s: %s, want %s", i, len(ops), shortOp(ops[i]), shortObs(o), shortObs(want[i]))
			return
		}
	}
}

// wantSameRun holds a run against the document's words.
func wantSameRun(t *testing.T, s impl.Schema, ops []impl.IndexOp) {
	t.Helper()
	want, code := runOf(s, searchOf, ops)
	wantRun(t, s, ops, want, code)
}

// wantRunOfSearch is wantSameRun with what Search itself tells, for what the second
// telling of it takes too long for.
func wantRunOfSearch(t *testing.T, s impl.Schema, ops []impl.IndexOp) {
	t.Helper()
	want, code := runOf(s, impl.Search, ops)
	wantRun(t, s, ops, want, code)
}

// mustRun is for what can be run.
func mustRun(t *testing.T, s impl.Schema, ops []impl.IndexOp) []impl.IndexObs {
	t.Helper()
	list, code := impl.IndexRun(s, ops)
	if code != impl.OK || len(list) != len(ops) {
		t.Fatalf("IndexRun of %d operations: %d answers, code %d", len(ops), len(list), code)
	}
	return list
}

func lastRun(t *testing.T, s impl.Schema, ops []impl.IndexOp) impl.IndexObs {
	t.Helper()
	return mustRun(t, s, ops)[len(ops)-1]
}

func puts(d impl.Doc) impl.IndexOp       { return impl.IndexOp{Kind: impl.WPut, Doc: d} }
func removes(id string) impl.IndexOp     { return impl.IndexOp{Kind: impl.WDelete, Id: id} }
func refreshes() impl.IndexOp            { return impl.IndexOp{Kind: impl.WRefresh} }
func opens() impl.IndexOp                { return impl.IndexOp{Kind: impl.WOpen} }
func closes(reader int) impl.IndexOp     { return impl.IndexOp{Kind: impl.WClose, Reader: reader} }
func getsVersion(id string) impl.IndexOp { return impl.IndexOp{Kind: impl.WGet, Id: id} }

func searches(reader int, a impl.Ask) impl.IndexOp {
	return impl.IndexOp{Kind: impl.WSearch, Reader: reader, Ask: a}
}

// opOf tells the operation of a word, on documents of small: +a is a put, -a a
// delete, each perhaps with @ and a version; ! is a refresh, o opens a reader, x1
// closes it, ?1 searches it for all documents, =a asks for a version. A document
// has the number of its operation in n, and a search tells it as its key.
func opOf(t *testing.T, number int, word string) impl.IndexOp {
	t.Helper()
	id, version, _ := strings.Cut(word[1:], "@")
	op := impl.IndexOp{Id: id}
	op.Version, _ = strconv.Atoi(version)
	op.Reader, _ = strconv.Atoi(id)
	switch word[0] {
	case '+':
		op = impl.IndexOp{Kind: impl.WPut, Version: op.Version, Doc: docWith(id, numbersIn("n", number))}
	case '-':
		op.Kind = impl.WDelete
	case '!':
		op.Kind = impl.WRefresh
	case 'o':
		op.Kind = impl.WOpen
	case 'x':
		op.Kind = impl.WClose
	case '?':
		op = searches(op.Reader, impl.Ask{Query: allLeaf().query(), Size: 1000, Sort: up("n")})
	case '=':
		op.Kind = impl.WGet
	default:
		t.Fatalf("%s is no operation", word)
	}
	return op
}

func opsOf(t *testing.T, text string) []impl.IndexOp {
	t.Helper()
	var ops []impl.IndexOp
	for i, word := range strings.Fields(text) {
		ops = append(ops, opOf(t, i, word))
	}
	return ops
}

// obsText tells a code, a version and a reader that are not 0, how many documents
// and segments there are, how many were found, and their ids with their keys.
func obsText(o impl.IndexObs) string {
	text := ""
	for _, part := range []struct {
		sign string
		n    int
	}{{"c", o.Code}, {"v", o.Version}, {"r", o.Reader}} {
		if part.n != 0 {
			text += fmt.Sprint(part.sign, part.n, " ")
		}
	}
	text += fmt.Sprintf("%d/%d", o.Live, o.Segments)
	if o.Result.Total != 0 {
		text += fmt.Sprint(" ", o.Result.Total)
	}
	for _, f := range o.Result.Hits {
		text += " " + f.Id
		for _, key := range f.Keys {
			text += fmt.Sprint(":", key)
		}
	}
	return text
}

// wantTale takes lines of which each is the word of an operation and, behind a
// blank, what it tells.
func wantTale(t *testing.T, lines ...string) {
	t.Helper()
	var ops []impl.IndexOp
	var want []string
	for i, line := range lines {
		word, told, _ := strings.Cut(line, " ")
		ops = append(ops, opOf(t, i, word))
		want = append(want, told)
	}
	for i, o := range mustRun(t, small(), ops) {
		if told := obsText(o); told != want[i] {
			t.Errorf("operation %d, %s: %s", i, lines[i], told)
		}
	}
	wantSameRun(t, small(), ops)
}

// randomOp picks from few ids, so that they meet each other.
func randomOp(source *rand.Rand, w *writerTelling) impl.IndexOp {
	op := impl.IndexOp{Id: string(rune('a' + source.Intn(9)))}
	there := w.held(op.Id)
	switch source.Intn(8) {
	case 0:
		op.Version = -1
	case 1:
		op.Version = source.Intn(w.version+3) - 2
	case 2, 3:
		if there != nil {
			op.Version = there.version
		}
	}
	op.Reader = 1 + source.Intn(len(w.readers)+1)
	op.Kind = []int{1, 1, 1, 1, 2, 2, 3, 3, 4, 5, 6, 6, 6, 7}[source.Intn(14)]
	op.Doc = randomSceneDoc(source, op.Id)
	op.Ask = impl.Ask{Query: randomSceneBranch(source, 3).query(), From: source.Intn(2), Size: source.Intn(9), Sort: randomKeys(source)}
	if source.Intn(3) == 0 {
		op.Ask.Collapse = "tag"
	}
	return op
}

// randomRun tells operations on scene, and what the second telling says of them.
func randomRun(source *rand.Rand, search searching, n int) ([]impl.IndexOp, []impl.IndexObs) {
	w := &writerTelling{s: scene(), search: search}
	var ops []impl.IndexOp
	var told []impl.IndexObs
	for range n {
		op := randomOp(source, w)
		ops = append(ops, op)
		told = append(told, w.do(op))
	}
	return ops, told
}
