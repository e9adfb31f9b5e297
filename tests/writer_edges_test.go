package tests

import (
	"fmt"
	"slices"
	"strings"
	"testing"

	"loop.example/g00018/impl"
)

// As many operations as may be, and one more, of every kind.
func TestRunLimitOnOperations(t *testing.T) {
	for _, op := range []impl.IndexOp{puts(docWith("a")), removes("a"), refreshes(), opens(), closes(1), searches(1, impl.Ask{}), getsVersion("a"), {}, {Kind: 8}} {
		for _, n := range []int{0, 1, 199, 200} {
			ops := slices.Repeat([]impl.IndexOp{op}, n)
			wantSameRun(t, small(), ops)
			if list := mustRun(t, small(), ops); len(list) != n {
				t.Errorf("%d answers of %d operations", len(list), n)
			}
		}
		for _, n := range []int{201, 202, 4096, 4097, 100000} {
			wantRun(t, small(), slices.Repeat([]impl.IndexOp{op}, n), nil, impl.ErrMany)
		}
	}
}

func TestRunOfNoOperations(t *testing.T) {
	wantRun(t, small(), nil, nil, impl.OK)
	wantRun(t, small(), []impl.IndexOp{}, nil, impl.OK)
	wantRun(t, scene(), opsOf(t, ""), nil, impl.OK)
}

// 200 documents, each put alone, at once, and in segments of every size.
func TestRunOfManyDocuments(t *testing.T) {
	docs := numbered(200)
	all := impl.Ask{Query: allLeaf().query(), Size: 1000}
	for _, size := range []int{1, 2, 3, 7, 49, 50, 196} {
		var ops []impl.IndexOp
		for len(ops) < 198 {
			for range size {
				ops = append(ops, puts(docs[len(ops)%200]))
			}
			ops = append(ops, refreshes())
		}
		ops = append(ops[:198], opens(), searches(1, all))
		wantRunOfSearch(t, small(), ops)
	}
	ops := []impl.IndexOp{}
	for _, d := range docs[:197] {
		ops = append(ops, puts(d))
	}
	ops = append(ops, refreshes(), opens(), searches(1, all))
	o := lastRun(t, small(), ops)
	if o.Live != 197 || o.Segments != 1 || o.Result.Total != 197 || len(o.Result.Hits) != 197 {
		t.Errorf("%s", shortObs(o))
	}
	if o := lastRun(t, small(), append(ops[:197:197], puts(docs[197]), puts(docs[198]), puts(docs[199]))); !sameObs(o, impl.IndexObs{Version: 200, Live: 200}) {
		t.Errorf("%s", shortObs(o))
	}
}

// Four segments are as many as there may be; a fifth makes one of two.
func TestRunLimitOnSegments(t *testing.T) {
	wantTale(t, "+a v1 1/0", "! 1/1", "+b v2 2/1", "! 2/2", "+c v3 3/2", "! 3/3", "+d v4 4/3", "! 4/4", "! 4/4", "+e v5 5/4", "! 5/4", "+f v6 6/4", "! 6/4")
	// One goes as one comes: nothing is merged.
	wantTale(t, "+a v1 1/0", "! 1/1", "+b v2 2/1", "! 2/2", "+c v3 3/2", "! 3/3", "+d v4 4/3", "! 4/4", "-b v5 3/4", "+e v6 4/4", "! 4/4", "-a v7 3/4", "-c v8 2/4", "-d v9 1/4", "! 1/1", "-e v10 0/1", "! 0/0")
	wantTale(t, "+a v1 1/0", "! 1/1", "+b v2 2/1", "! 2/2", "+c v3 3/2", "! 3/3", "+d v4 4/3", "! 4/4", "+a v5 4/4", "! 4/4", "-b v6 3/4", "! 3/3")
}

// The greatest ids and documents, and those of which an index of the same kind
// would have too much to be one segment.
func TestRunOfGreatDocuments(t *testing.T) {
	long := strings.Repeat("~", impl.MaxName)
	wantTale(t, "+"+long+" v1 1/0", "="+long+" v1 1/0", "="+long[1:]+" c8 1/0", "="+long+"~ c8 1/0", "! 1/1", "o r1 1/1", "?1 1/1 1 "+long+":0", "-"+long+"~ c8 1/1", "-"+long+" v2 0/1")
	var ops []impl.IndexOp
	for i := range 12 {
		text := ""
		for k := 0; len(text)+6 <= impl.MaxBody; k++ {
			text += fmt.Sprintf("%c%04x ", 'g'+i, k*7919%65536)
		}
		ops = append(ops, puts(docWith(string(rune('a'+i)), textsIn("t", text))))
	}
	if _, code := impl.BuildSegment(small(), []impl.Doc{ops[0].Doc, ops[1].Doc, ops[2].Doc, ops[3].Doc, ops[4].Doc, ops[5].Doc, ops[6].Doc}); code != impl.ErrMany {
		t.Fatalf("a segment of these has code %d", code)
	}
	ops = append(ops, refreshes(), opens(), searches(1, impl.Ask{Query: queryOf(t, "g0000 r0000 k*"), Size: 99}))
	wantRunOfSearch(t, small(), ops)
	if o := lastRun(t, small(), ops); o.Code != impl.OK || o.Segments != 1 || o.Live != 12 || o.Result.Total != 3 {
		t.Errorf("%s", shortObs(o))
	}
}

// Documents of the most words, asked over and over: what a reader has gathered
// once it need not gather again.
func TestRunOfGreatSearches(t *testing.T) {
	var ops []impl.IndexOp
	for i := range 60 {
		text := strings.Repeat(crowdedText(i), 4)
		ops = append(ops, puts(docWith(fmt.Sprint("d", i), numbersIn("n", i%7), textsIn("t", text[:impl.MaxBody-i]))))
	}
	ops = append(ops, refreshes(), opens())
	for i := len(ops); i < 200; i++ {
		q := queryOf(t, fmt.Sprintf("k%d k%d* \"k%d k%d\"~9 cot~2", i, i%9, i, i+1))
		ops = append(ops, searches(1, impl.Ask{Query: q, Size: 3, Sort: up("n")}))
	}
	list := mustRun(t, small(), ops)
	docs := []impl.Doc{}
	for _, op := range ops[:60] {
		docs = append(docs, op.Doc)
	}
	for i := 62; i < 200; i += 20 {
		want := mustSearch(t, small(), oneSegment(docs), ops[i].Ask)
		if !sameResult(list[i].Result, want) || want.Total == 0 {
			t.Errorf("operation %d: %s, want %s", i, shortObs(list[i]), shortResult(want))
		}
	}
}
