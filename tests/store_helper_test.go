package tests

import (
	"bytes"
	"fmt"
	"math/rand"
	"slices"
	"strconv"
	"strings"
	"testing"

	"loop.example/g00018/impl"
)

// What the document says of the store, told a second time: bytes are a record's if
// the record that is read from them gives them again, and nothing is held in
// memory: the documents are told from the log behind every operation, those being
// there of whose ids the last record is a put.

func rightRecord(r impl.Record) bool {
	_, code := docBytesOf(r.Doc)
	switch {
	case r.Seq < 1 || r.Seq > greatest:
		return false
	case r.Kind == 1:
		return r.Id == "" && idForm.MatchString(r.Doc.Id) && code == impl.OK
	case r.Kind == 2:
		return idForm.MatchString(r.Id) && sameDoc(r.Doc, impl.Doc{})
	}
	return false
}

// partOf tells the part of a record, be that right or not.
func partOf(r impl.Record) []byte {
	part := putBehind([]byte{byte(r.Kind)}, r.Seq)
	if r.Kind != 1 {
		return append(part, r.Id...)
	}
	doc, _ := docBytesOf(r.Doc)
	return append(part, doc...)
}

// framed tells a part with its length and its sum, whatever it holds.
func framed(part []byte) []byte {
	return append(putBehind(nil, len(part)), summed(part)...)
}

func recordBytesOf(r impl.Record) ([]byte, int) {
	if !rightRecord(r) {
		return nil, impl.ErrBad
	}
	b := framed(partOf(r))
	if len(b) > mostBytes {
		return nil, impl.ErrLong
	}
	return b, impl.OK
}

// recordAt tells the record at a place of a log and the place behind it, which is
// below 0 if none stands there.
func recordAt(b []byte, at int) (impl.Record, int) {
	size, from, code := getOf(b, at)
	if code != impl.OK || size > len(b)-from-4 {
		return impl.Record{}, -1
	}
	part := b[from : from+size]
	seq, next, code := getOf(part, 1)
	if code != impl.OK {
		return impl.Record{}, -1
	}
	r := impl.Record{Kind: int(part[0]), Seq: seq}
	if r.Kind == 1 {
		r.Doc, code = docOf(part[next:])
	} else {
		r.Id = string(part[next:])
	}
	again, wrong := recordBytesOf(r)
	if code != impl.OK || wrong != impl.OK || !bytes.Equal(again, b[at:from+size+4]) {
		return impl.Record{}, -1
	}
	return r, from + size + 4
}

// logBehind goes on to read a log that begins with these records, up to a place.
func logBehind(b []byte, list []impl.Record, at int) ([]impl.Record, int) {
	for {
		r, next := recordAt(b, at)
		if next < 0 || r.Seq != len(list)+1 {
			return list, at
		}
		list, at = append(list, r), next
	}
}

func logOf(b []byte) ([]impl.Record, int, int) {
	if len(b) > mostBytes {
		return nil, 0, impl.ErrLong
	}
	list, size := logBehind(b, nil, 0)
	return list, size, impl.OK
}

func sameRecord(r, other impl.Record) bool {
	return r.Kind == other.Kind && r.Seq == other.Seq && r.Id == other.Id && sameDoc(r.Doc, other.Doc)
}

func shortRecord(r impl.Record) string {
	return cutOff(fmt.Sprintf("%+v", r))
}

func shortLog(list []impl.Record) string {
	return cutOff(fmt.Sprintf("%d records %+v", len(list), list))
}

func wantRecord(t *testing.T, r impl.Record, want []byte, wantCode int) {
	t.Helper()
	if b, code := impl.RecordBytes(r); code != wantCode || !bytes.Equal(b, want) {
		t.Errorf("RecordBytes of %s: %s, code %d, want %s, code %d", shortRecord(r), shortBytes(b), code, shortBytes(want), wantCode)
	}
}

// wantSameRecord holds a record against the document's words.
func wantSameRecord(t *testing.T, r impl.Record) {
	t.Helper()
	want, code := recordBytesOf(r)
	wantRecord(t, r, want, code)
}

func wantLog(t *testing.T, b []byte, want []impl.Record, wantSize, wantCode int) {
	t.Helper()
	list, size, code := impl.ReadLog(b)
	if code != wantCode || size != wantSize || !slices.EqualFunc(list, want, sameRecord) {
		t.Errorf("ReadLog of %s: %s of %d bytes, code %d, want %s of %d bytes, code %d", shortBytes(b), shortLog(list), size, code, shortLog(want), wantSize, wantCode)
	}
}

// wantSameLog holds a log, right or wrong, against the document's words.
func wantSameLog(t *testing.T, b []byte) {
	t.Helper()
	want, size, code := logOf(b)
	wantLog(t, b, want, size, code)
}

// mustRecord is for a valid record.
func mustRecord(t *testing.T, r impl.Record) []byte {
	t.Helper()
	b, code := impl.RecordBytes(r)
	if code != impl.OK {
		t.Fatalf("RecordBytes of %s: code %d", shortRecord(r), code)
	}
	return b
}

func putRecord(seq int, d impl.Doc) impl.Record {
	return impl.Record{Kind: impl.RecPut, Seq: seq, Doc: d}
}

func deleteRecord(seq int, id string) impl.Record {
	return impl.Record{Kind: impl.RecDelete, Seq: seq, Id: id}
}

// logBytes tells the bytes of records one behind the other, and where each begins.
func logBytes(t *testing.T, list []impl.Record) (b []byte, places []int) {
	t.Helper()
	for _, r := range list {
		places = append(places, len(b))
		b = append(b, mustRecord(t, r)...)
	}
	return b, places
}

// sampleLog tells records of both kinds, numbered from 1 on.
func sampleLog() []impl.Record {
	return []impl.Record{
		putRecord(1, docWith("a")), deleteRecord(2, "a"), putRecord(3, docWith("b", numbersIn("n", 5, -5))), deleteRecord(4, strings.Repeat("~", 30)),
		putRecord(5, docWith("!", textsIn("z", "x", ""), impl.Value{Field: "y", Texts: []string{"\xff"}, Numbers: []int{greatestNumber}})), putRecord(6, docWith("long", textsIn("t", strings.Repeat("long ", 30)))), deleteRecord(7, "b"), putRecord(8, book()),
	}
}

type storeTelling struct {
	s      impl.Schema
	search searching
	log    []byte
	loose  int // so many bytes at its end were not synced
	down   bool
	list   []impl.Record // those with which the log begins
	size   int           // of these
}

func spokenOf(r impl.Record) string {
	return r.Id + r.Doc.Id
}

func (x *storeTelling) docs() []impl.Doc {
	var docs []impl.Doc
	for i, r := range x.list {
		later := func(other impl.Record) bool { return spokenOf(other) == spokenOf(r) }
		if r.Kind == 1 && !slices.ContainsFunc(x.list[i+1:], later) {
			docs = append(docs, r.Doc)
		}
	}
	return docs
}

func (x *storeTelling) has(id string) bool {
	return slices.ContainsFunc(x.docs(), func(d impl.Doc) bool { return d.Id == id })
}

func (x *storeTelling) written(r impl.Record) int {
	r.Seq = len(x.list) + 1
	b, code := recordBytesOf(r)
	if code != impl.OK || len(x.log)+len(b) > mostBytes {
		return impl.ErrLong
	}
	x.log = append(x.log, b...)
	x.loose += len(b)
	return impl.OK
}

func (x *storeTelling) crashes(op impl.StoreOp) {
	firm := len(x.log) - x.loose
	disk := slices.Clone(x.log[:firm])
	for i, sign := range x.log[firm:] {
		if op.Flip && op.At == i {
			sign = 255 - sign
		}
		if i < op.N {
			disk = append(disk, sign)
		}
	}
	x.log, x.loose, x.list, x.size, x.down = disk, 0, nil, 0, true
}

func (x *storeTelling) does(op impl.StoreOp) (impl.Result, int) {
	code := impl.OK
	switch {
	case x.down && op.Kind != 6:
		code = impl.ErrDown
	case x.down:
		_, size, _ := logOf(x.log)
		x.log, x.down = x.log[:size], false
	case op.Kind == 1 && !rightDoc(x.s, op.Doc):
		code = impl.ErrBad
	case op.Kind == 1:
		code = x.written(putRecord(0, op.Doc))
	case op.Kind == 2 && !x.has(op.Id):
		code = impl.ErrMissing
	case op.Kind == 2:
		code = x.written(deleteRecord(0, op.Id))
	case op.Kind == 3:
		x.loose = 0
	case op.Kind == 4:
		return x.search(x.s, oneSegment(x.docs()), op.Ask)
	case op.Kind == 5:
		x.crashes(op)
	default:
		code = impl.ErrBad
	}
	return impl.Result{}, code
}

func (x *storeTelling) do(op impl.StoreOp) impl.StoreObs {
	result, code := x.does(op)
	o := impl.StoreObs{Code: code, Result: result}
	if !x.down {
		x.list, x.size = logBehind(x.log, x.list, x.size)
		o.Seq, o.Bytes, o.Synced, o.Live = len(x.list), len(x.log), len(x.log)-x.loose, len(x.docs())
	}
	return o
}

func storeOf(s impl.Schema, search searching, ops []impl.StoreOp) ([]impl.StoreObs, int) {
	if len(ops) > 200 {
		return nil, impl.ErrMany
	}
	if !rightSchema(s) {
		return nil, impl.ErrBad
	}
	x := &storeTelling{s: s, search: search}
	var list []impl.StoreObs
	for _, op := range ops {
		list = append(list, x.do(op))
	}
	return list, impl.OK
}

func sameStoreObs(o, want impl.StoreObs) bool {
	return o.Code == want.Code && o.Seq == want.Seq && o.Bytes == want.Bytes && o.Synced == want.Synced && o.Live == want.Live && sameResult(o.Result, want.Result)
}

func shortStoreOp(op impl.StoreOp) string {
	return cutOff(fmt.Sprintf("%+v", op))
}

func shortStoreObs(o impl.StoreObs) string {
	return cutOff(fmt.Sprintf("%+v", o))
}

func wantStore(t *testing.T, s impl.Schema, ops []impl.StoreOp, want []impl.StoreObs, wantCode int) {
	t.Helper()
	list, code := impl.StoreRun(s, ops)
	if code != wantCode || len(list) != len(want) {
		t.Errorf("StoreRun of %d operations: %d answers, code %d, want %d, code %d", len(ops), len(list), code, len(want), wantCode)
		return
	}
	for i, o := range list {
		if !sameStoreObs(o, want[i]) {
			t.Errorf("operation %d of %d, %s: %s, want %s", i, len(ops), shortStoreOp(ops[i]), shortStoreObs(o), shortStoreObs(want[i]))
			return
		}
	}
}

// wantSameStore holds a run against the document's words.
func wantSameStore(t *testing.T, s impl.Schema, ops []impl.StoreOp) {
	t.Helper()
	want, code := storeOf(s, searchOf, ops)
	wantStore(t, s, ops, want, code)
}

// mustStore is for what can be run.
func mustStore(t *testing.T, s impl.Schema, ops []impl.StoreOp) []impl.StoreObs {
	t.Helper()
	list, code := impl.StoreRun(s, ops)
	if code != impl.OK || len(list) != len(ops) {
		t.Fatalf("StoreRun of %d operations: %d answers, code %d", len(ops), len(list), code)
	}
	return list
}

func lastStore(t *testing.T, s impl.Schema, ops []impl.StoreOp) impl.StoreObs {
	t.Helper()
	return mustStore(t, s, ops)[len(ops)-1]
}

func keeps(d impl.Doc) impl.StoreOp { return impl.StoreOp{Kind: impl.SPut, Doc: d} }
func drops(id string) impl.StoreOp  { return impl.StoreOp{Kind: impl.SDelete, Id: id} }
func syncs() impl.StoreOp           { return impl.StoreOp{Kind: impl.SSync} }
func finds(a impl.Ask) impl.StoreOp { return impl.StoreOp{Kind: impl.SFind, Ask: a} }
func crashes(n int) impl.StoreOp    { return impl.StoreOp{Kind: impl.SCrash, N: n} }
func crashesAt(n, at int) impl.StoreOp {
	return impl.StoreOp{Kind: impl.SCrash, N: n, Flip: true, At: at}
}
func recovers() impl.StoreOp { return impl.StoreOp{Kind: impl.SRecover} }

func allSorted() impl.Ask {
	return impl.Ask{Query: allLeaf().query(), Size: 1000, Sort: up("n")}
}

// storeOpOf tells the operation of a word, on documents of small: +a is a put, -a a
// delete, s a sync, ? a search for all documents, !5 a crash that keeps five bytes,
// perhaps with ~ and the place that is turned over, r a recovery. A document has
// the number of its operation in n, and a search tells it as its key: the record of
// a put of a short id has 15 bytes, that of its delete 8.
func storeOpOf(t *testing.T, number int, word string) impl.StoreOp {
	t.Helper()
	rest := word[1:]
	switch word[0] {
	case '+':
		return keeps(docWith(rest, numbersIn("n", number)))
	case '-':
		return drops(rest)
	case 's':
		return syncs()
	case '?':
		return finds(allSorted())
	case '!':
		kept, place, flip := strings.Cut(rest, "~")
		n, _ := strconv.Atoi(kept)
		at, _ := strconv.Atoi(place)
		return impl.StoreOp{Kind: impl.SCrash, N: n, At: at, Flip: flip}
	case 'r':
		return recovers()
	}
	t.Fatalf("%s is no operation", word)
	return impl.StoreOp{}
}

func storeOps(t *testing.T, text string) []impl.StoreOp {
	t.Helper()
	var ops []impl.StoreOp
	for i, word := range strings.Fields(text) {
		ops = append(ops, storeOpOf(t, i, word))
	}
	return ops
}

// storeText tells a code that is not 0, Seq, Bytes and Synced, Live, how many were
// found, and their ids with their keys.
func storeText(o impl.StoreObs) string {
	text := ""
	if o.Code != 0 {
		text = fmt.Sprint("c", o.Code, " ")
	}
	text += fmt.Sprintf("%d %d/%d %d", o.Seq, o.Bytes, o.Synced, o.Live)
	if o.Result.Total != 0 {
		text += fmt.Sprint(" ", o.Result.Total)
	}
	for _, f := range o.Result.Hits {
		text += fmt.Sprint(" ", f.Id, ":", f.Keys[0])
	}
	return text
}

// wantStoreTale takes lines of which each is the word of an operation and, behind a
// blank, what it tells.
func wantStoreTale(t *testing.T, lines ...string) {
	t.Helper()
	var ops []impl.StoreOp
	var want []string
	for i, line := range lines {
		word, told, _ := strings.Cut(line, " ")
		ops = append(ops, storeOpOf(t, i, word))
		want = append(want, told)
	}
	for i, o := range mustStore(t, small(), ops) {
		if told := storeText(o); told != want[i] {
			t.Errorf("operation %d, %s: %s", i, lines[i], told)
		}
	}
	wantSameStore(t, small(), ops)
}

// randomStoreOp picks from few ids, so that they meet each other, and from places
// of a crash about those that there are.
func randomStoreOp(source *rand.Rand, x *storeTelling) impl.StoreOp {
	op := impl.StoreOp{Id: string(rune('a' + source.Intn(9)))}
	op.Kind = []int{1, 1, 1, 1, 1, 2, 2, 3, 4, 4, 4, 5, 6, 7}[source.Intn(14)]
	if x.down && source.Intn(2) == 0 {
		op.Kind = 6
	}
	op.N = source.Intn(x.loose+40) - 20
	op.Flip = source.Intn(3) == 0
	op.At = source.Intn(x.loose+10) - 5
	op.Doc = randomSceneDoc(source, op.Id)
	if source.Intn(12) == 0 {
		op.Doc = wrongDocs()[source.Intn(len(wrongDocs()))]
	}
	op.Ask = impl.Ask{Query: randomSceneBranch(source, 3).query(), From: source.Intn(2), Size: source.Intn(9), Sort: randomKeys(source)}
	if source.Intn(3) == 0 {
		op.Ask.Collapse = []string{"tag", "tag", "n"}[source.Intn(3)]
	}
	return op
}

// randomStore tells operations on scene, and what the second telling says of them.
func randomStore(source *rand.Rand, search searching, n int) ([]impl.StoreOp, []impl.StoreObs) {
	x := &storeTelling{s: scene(), search: search}
	var ops []impl.StoreOp
	var told []impl.StoreObs
	for range n {
		op := randomStoreOp(source, x)
		ops = append(ops, op)
		told = append(told, x.do(op))
	}
	return ops, told
}
