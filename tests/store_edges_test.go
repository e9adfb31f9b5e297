package tests

import (
	"fmt"
	"math"
	"slices"
	"strings"
	"testing"

	"loop.example/g00018/impl"
)

// As many operations as may be, and one more, of every kind.
func TestStoreLimitOnOperations(t *testing.T) {
	for _, op := range []impl.StoreOp{keeps(docWith("a")), drops("a"), syncs(), finds(impl.Ask{}), crashes(0), recovers(), {}, {Kind: 7}} {
		for _, n := range []int{0, 1, 199, 200} {
			ops := slices.Repeat([]impl.StoreOp{op}, n)
			wantSameStore(t, small(), ops)
			if list := mustStore(t, small(), ops); len(list) != n {
				t.Errorf("%d answers of %d operations", len(list), n)
			}
		}
		for _, n := range []int{201, 202, 4096, 4097, 100000} {
			wantStore(t, small(), slices.Repeat([]impl.StoreOp{op}, n), nil, impl.ErrMany)
		}
	}
}

func TestStoreOfNoOperations(t *testing.T) {
	wantStore(t, small(), nil, nil, impl.OK)
	wantStore(t, small(), []impl.StoreOp{}, nil, impl.OK)
	wantStore(t, scene(), storeOps(t, ""), nil, impl.OK)
}

// The records of the most documents, of which the last Seqs have two bytes.
func TestStoreOfManyDocuments(t *testing.T) {
	var ops []impl.StoreOp
	size := 0
	for i, d := range numbered(195) {
		ops = append(ops, keeps(d))
		size += 13 + btoi(i+1 > 127)
	}
	ops = append(ops, finds(impl.Ask{Query: allLeaf().query(), Size: 1000}), syncs(), crashes(0), recovers(), finds(impl.Ask{Query: allLeaf().query(), Size: 1000}))
	wantSameStore(t, small(), ops)
	list := mustStore(t, small(), ops)
	if !sameStoreObs(list[196], impl.StoreObs{Seq: 195, Bytes: size, Synced: size, Live: 195}) {
		t.Errorf("%s", shortStoreObs(list[196]))
	}
	if o := list[199]; o.Seq != 195 || o.Live != 195 || o.Result.Total != 195 || !sameResult(o.Result, list[195].Result) {
		t.Errorf("%s", shortStoreObs(o))
	}
}

// Every number of bytes that a crash may keep, and every place that may be turned
// over: what comes back is told by where the first byte is missing or wrong.
func TestStoreOfEachCrash(t *testing.T) {
	ahead := storeOps(t, "+a +b s +c -a +b -c +d")
	ends := []int{0, 15, 23, 38, 46, 61}
	live := []int{2, 3, 2, 2, 1, 2}
	told := []string{"a:0 b:1", "a:0 b:1 c:3", "b:1 c:3", "c:3 b:5", "b:5", "b:5 d:7"}
	numbers := []int{math.MinInt, math.MinInt + 30, -31, -30, -1}
	for n := range 65 {
		numbers = append(numbers, n)
	}
	numbers = append(numbers, 1000, math.MaxInt-30, math.MaxInt-29, math.MaxInt)
	for _, n := range numbers {
		for _, at := range numbers {
			for _, flip := range []bool{false, true} {
				whole := min(n, 61)
				if flip && at >= 0 && at < whole {
					whole = at
				}
				kept := 0
				for kept < 5 && ends[kept+1] <= whole {
					kept++
				}
				crash := impl.StoreOp{Kind: impl.SCrash, N: n, At: at, Flip: flip}
				list := mustStore(t, small(), append(ahead[:8:8], crash, recovers(), finds(allSorted())))
				o := list[10]
				want := fmt.Sprintf("%d %d/%d %d %d %s", 2+kept, 30+ends[kept], 30+ends[kept], live[kept], live[kept], told[kept])
				if storeText(list[8]) != "0 0/0 0" || storeText(o) != want {
					t.Errorf("a crash with N %d, At %d, Flip %v: %s, then %s, want %s", n, at, flip, storeText(list[8]), storeText(o), want)
				}
			}
		}
	}
}

// wide is a schema of which a document may have some 6000 bytes: most of them are
// those of fields' names and of great numbers.
func wide() impl.Schema {
	s := schemaOf()
	for i := range 15 {
		s.Fields = append(s.Fields, numberField(fmt.Sprintf("n%028d%c", 0, 'a'+i)))
	}
	s.Fields = append(s.Fields, textField("t", impl.Analyzer{}))
	return s
}

// wideDoc tells a document of wide whose text has this size.
func wideDoc(id string, size int) impl.Doc {
	d := docWith(id)
	for _, field := range wide().Fields[:15] {
		d.Values = append(d.Values, numbersIn(field.Name, slices.Repeat([]int{-greatestNumber}, 16)...))
	}
	d.Values = append(d.Values, textsIn("t", strings.Repeat("x", size)))
	return d
}

// fullOps tells puts behind which a log has room for just so many bytes.
func fullOps(t *testing.T, room int) []impl.StoreOp {
	t.Helper()
	var ops []impl.StoreOp
	left := impl.MaxBytes - room
	for {
		d := wideDoc(fmt.Sprint("d", len(ops)%7), 4000)
		size := len(framed(partOf(putRecord(len(ops)+1, d))))
		if left < 2*size {
			break
		}
		ops = append(ops, keeps(d))
		left -= size
	}
	// What is left is for two documents, of which both have lengths of two bytes.
	for i, size := range []int{left / 2, left - left/2} {
		least := len(framed(partOf(putRecord(len(ops)+1, wideDoc("e", 1000)))))
		d := wideDoc([]string{"e", "f"}[i], 1000+size-least)
		ops = append(ops, keeps(d))
	}
	list := mustStore(t, wide(), ops)
	if o := list[len(list)-1]; o.Bytes != impl.MaxBytes-room || o.Code != impl.OK || o.Seq != len(ops) || len(ops) > 180 {
		t.Fatalf("behind %d puts: %s", len(ops), shortStoreObs(o))
	}
	return ops
}

// A log of just MaxBytes bytes may be written; with one more nothing is done.
func TestStoreLimitOnBytes(t *testing.T) {
	// With a Seq of two bytes, a put of a document of one byte has 11 bytes, its
	// delete 9.
	for room := range 13 {
		ops := fullOps(t, room)
		full := impl.StoreObs{Seq: len(ops), Bytes: impl.MaxBytes - room, Live: 9}
		for _, c := range []struct {
			op         impl.StoreOp
			size, live int
		}{{drops("e"), 9, 8}, {drops("d0"), 10, 8}, {keeps(docWith("e")), 11, 9}, {keeps(docWith("g")), 11, 10}, {keeps(docWith("gg")), 12, 10}} {
			want := full
			if room >= c.size {
				want = impl.StoreObs{Seq: full.Seq + 1, Bytes: full.Bytes + c.size, Live: c.live}
			} else {
				want.Code = impl.ErrLong
			}
			run := append(ops[:len(ops):len(ops)], c.op, syncs(), crashes(0), recovers())
			list := mustStore(t, wide(), run)
			if !sameStoreObs(list[len(ops)], want) {
				t.Errorf("room for %d bytes, %s: %s, want %s", room, shortStoreOp(c.op), shortStoreObs(list[len(ops)]), shortStoreObs(want))
			}
			want.Code, want.Synced = impl.OK, want.Bytes
			if !sameStoreObs(list[len(ops)+1], want) || !sameStoreObs(list[len(ops)+3], want) {
				t.Errorf("room for %d bytes, %s: then %s and %s, want %s", room, shortStoreOp(c.op), shortStoreObs(list[len(ops)+1]), shortStoreObs(list[len(ops)+3]), shortStoreObs(want))
			}
		}
	}
}

// A log that is full: all else goes on, and there is room again for what a crash
// took.
func TestStoreOfAFullLog(t *testing.T) {
	ops := fullOps(t, 0)
	n := len(ops)
	lost := len(framed(partOf(putRecord(n, ops[n-1].Doc))))
	all := finds(impl.Ask{Query: allLeaf().query(), Size: 100})
	run := append(ops[:n-1:n-1], syncs(), ops[n-1], keeps(docWith("e")), drops("e"), drops("none"), keeps(docWith("a b")), all, recovers(), impl.StoreOp{Kind: 9}, crashes(lost-1), recovers(), all, keeps(docWith("e")), drops("d1"), all, syncs(), crashes(0), recovers(), all)
	wantSameStore(t, wide(), run)
	list := mustStore(t, wide(), run)[n-1:]
	for i, want := range []impl.StoreObs{
		{Seq: n - 1, Bytes: impl.MaxBytes - lost, Live: 8}, {Seq: n, Bytes: impl.MaxBytes, Live: 9},
		{Code: impl.ErrLong, Seq: n, Bytes: impl.MaxBytes, Live: 9}, {Code: impl.ErrLong, Seq: n, Bytes: impl.MaxBytes, Live: 9}, {Code: impl.ErrMissing, Seq: n, Bytes: impl.MaxBytes, Live: 9}, {Code: impl.ErrBad, Seq: n, Bytes: impl.MaxBytes, Live: 9},
		{Seq: n, Bytes: impl.MaxBytes, Live: 9, Result: impl.Result{Total: 9}}, {Code: impl.ErrBad, Seq: n, Bytes: impl.MaxBytes, Live: 9}, {Code: impl.ErrBad, Seq: n, Bytes: impl.MaxBytes, Live: 9}, {},
		{Seq: n - 1, Bytes: impl.MaxBytes - lost, Live: 8}, {Seq: n - 1, Bytes: impl.MaxBytes - lost, Live: 8, Result: impl.Result{Total: 8}}, {Seq: n, Bytes: impl.MaxBytes - lost + 11, Live: 8}, {Seq: n + 1, Bytes: impl.MaxBytes - lost + 21, Live: 7},
	} {
		o := list[i]
		if o.Code != want.Code || o.Seq != want.Seq || o.Bytes != want.Bytes || o.Live != want.Live || o.Result.Total != want.Result.Total {
			t.Errorf("operation %d: %s, want %s", i, shortStoreObs(o), shortStoreObs(want))
		}
	}
	if o := list[len(list)-1]; o.Synced != impl.MaxBytes-lost+21 || toldIds(o.Result.Hits) != "d0 d2 d3 d4 d5 d6 e" {
		t.Errorf("%s", shortStoreObs(o))
	}
}

// A full log comes back whole, and all of it that is kept does.
func TestStoreOfAFullLogInCrashes(t *testing.T) {
	ops := fullOps(t, 0)
	n := len(ops)
	for _, kept := range []int{impl.MaxBytes / 2, impl.MaxBytes - 1, impl.MaxBytes + 1} {
		for _, at := range []int{kept / 3, kept - 1} {
			wantSameStore(t, wide(), append(ops[:n:n], crashesAt(kept, at), recovers(), crashes(9), recovers()))
		}
	}
	list := mustStore(t, wide(), append(ops[:n:n], crashes(impl.MaxBytes), recovers()))
	if !sameStoreObs(list[n+1], impl.StoreObs{Seq: n, Bytes: impl.MaxBytes, Synced: impl.MaxBytes, Live: 9}) {
		t.Errorf("%s", shortStoreObs(list[n+1]))
	}
}

// The greatest and the least ids and documents.
func TestStoreOfEdgeDocuments(t *testing.T) {
	long := strings.Repeat("~", impl.MaxName)
	wantStoreTale(t, "+"+long+" 1 44/0 1", "-"+long[1:]+" c8 1 44/0 1", "-"+long+"~ c8 1 44/0 1", "+"+long+"~ c1 1 44/0 1", "s 1 44/44 1", "!0 0 0/0 0", "r 1 44/44 1", "? 1 44/44 1 1 "+long+":0", "-"+long+" 2 81/44 0")
	var ops []impl.StoreOp
	for more := -1; more <= 1; more++ {
		ops = append(ops, keeps(docWith("t", textsIn("t", strings.Repeat("x", impl.MaxBody+more)))), keeps(docWith("n", numbersIn("n", greatestNumber+more, -greatestNumber-more))), keeps(docWith("v", numbersIn("n", make([]int, impl.MaxValues+more)...))), keeps(docWith("w", textsIn("w", strings.Repeat("x", impl.MaxTerm+more)))), keeps(docWith(strings.Repeat("i", impl.MaxName+more))))
	}
	ops = append(ops, syncs(), crashes(0), recovers(), finds(allSorted()))
	wantSameStore(t, small(), ops)
	list := mustStore(t, small(), ops)
	for i, o := range list[:15] {
		if (o.Code == impl.ErrBad) != (i >= 10) {
			t.Errorf("%s: %s", shortStoreOp(ops[i]), shortStoreObs(o))
		}
	}
	if o := list[18]; o.Seq != 10 || o.Live != 6 || o.Result.Total != 6 {
		t.Errorf("%s", shortStoreObs(o))
	}
}

// Documents of the most words, asked over and over: what was gathered once need not
// be gathered again.
func TestStoreOfGreatSearches(t *testing.T) {
	var ops []impl.StoreOp
	var docs []impl.Doc
	for i := range 60 {
		text := strings.Repeat(crowdedText(i), 4)
		docs = append(docs, docWith(fmt.Sprint("d", i), numbersIn("n", i%7), textsIn("t", text[:impl.MaxBody-i])))
		ops = append(ops, keeps(docs[i]))
	}
	for i := len(ops); i < 200; i++ {
		q := queryOf(t, fmt.Sprintf("k%d k%d* \"k%d k%d\"~9 cot~2", i, i%9, i, i+1))
		ops = append(ops, finds(impl.Ask{Query: q, Size: 3, Sort: up("n")}))
	}
	list := mustStore(t, small(), ops)
	for i := 60; i < 200; i += 20 {
		want := mustSearch(t, small(), oneSegment(docs), ops[i].Ask)
		if !sameResult(list[i].Result, want) || want.Total == 0 {
			t.Errorf("operation %d: %s, want %s", i, shortStoreObs(list[i]), shortResult(want))
		}
	}
}
