package tests

import (
	"fmt"
	"math"
	"testing"

	"loop.example/g00018/impl"
)

func TestReaderAheadOfTheFirstRefresh(t *testing.T) {
	wantTale(t, "o r1 0/0", "?1 0/0", "+a v1 1/0", "?1 1/0", "o r2 1/0", "?2 1/0", "! 1/1", "?1 1/1", "?2 1/1", "o r3 1/1", "?3 1/1 1 a:2", "?1 1/1", "x1 1/1", "?1 c13 1/1", "?2 1/1", "?3 1/1 1 a:2")
	wantTale(t, "! 0/0", "o r1 0/0", "+a v1 1/0", "o r2 1/0", "?1 1/0", "?2 1/0")
}

// What waits is not seen, and what was deleted since the last refresh still is.
func TestReaderBetweenRefreshes(t *testing.T) {
	wantTale(t, "+a v1 1/0", "+b v2 2/0", "! 2/1", "+c v3 3/1", "-a v4 2/1", "+b v5 2/1", "o r1 2/1", "?1 2/1 2 a:0 b:1", "! 2/1", "o r2 2/1", "?2 2/1 2 c:3 b:5", "?1 2/1 2 a:0 b:1")
	// Two that are opened behind the same refresh see the same, what happens between
	// them or not.
	wantTale(t, "+a v1 1/0", "! 1/1", "o r1 1/1", "+b v2 2/1", "o r2 2/1", "-a v3 1/1", "o r3 1/1", "?1 1/1 1 a:0", "?2 1/1 1 a:0", "?3 1/1 1 a:0", "x2 1/1", "?1 1/1 1 a:0", "?2 c13 1/1", "?3 1/1 1 a:0")
	// A refresh at which nothing waits makes deletes seen.
	wantTale(t, "+a v1 1/0", "+b v2 2/0", "! 2/1", "o r1 2/1", "-a v3 1/1", "! 1/1", "o r2 1/1", "?2 1/1 1 b:1", "?1 1/1 2 a:0 b:1", "-b v4 0/1", "! 0/0", "o r3 0/0", "?3 0/0", "?2 0/0 1 b:1", "?1 0/0 2 a:0 b:1")
}

// A segment that a reader sees is merged away, deleted from, and gone.
func TestReaderOfMergedSegments(t *testing.T) {
	wantTale(t,
		"+a v1 1/0", "! 1/1", "o r1 1/1", "+b v2 2/1", "! 2/2", "o r2 2/2", "+c v3 3/2", "! 3/3", "o r3 3/3", "+d v4 4/3", "! 4/4", "o r4 4/4", "+e v5 5/4", "! 5/4", "o r5 5/4",
		"?1 5/4 1 a:0", "?2 5/4 2 a:0 b:3", "?3 5/4 3 a:0 b:3 c:6", "?4 5/4 4 a:0 b:3 c:6 d:9", "?5 5/4 5 a:0 b:3 c:6 d:9 e:12",
		"-a v6 4/4", "-b v7 3/4", "?1 3/4 1 a:0", "?2 3/4 2 a:0 b:3", "?5 3/4 5 a:0 b:3 c:6 d:9 e:12", "! 3/3", "o r6 3/3", "?6 3/3 3 c:6 d:9 e:12",
		"+c v8 3/3", "-d v9 2/3", "-e v10 1/3", "! 1/1", "o r7 1/1", "?7 1/1 1 c:28", "?1 1/1 1 a:0", "?4 1/1 4 a:0 b:3 c:6 d:9", "?5 1/1 5 a:0 b:3 c:6 d:9 e:12", "?6 1/1 3 c:6 d:9 e:12",
		"-c v11 0/1", "! 0/0", "?1 0/0 1 a:0", "?5 0/0 5 a:0 b:3 c:6 d:9 e:12", "?7 0/0 1 c:28", "x5 0/0", "?5 c13 0/0", "?4 0/0 4 a:0 b:3 c:6 d:9",
	)
}

func TestReaderNumbers(t *testing.T) {
	wantTale(t, "o r1 0/0", "o r2 0/0", "x1 0/0", "o r3 0/0", "x3 0/0", "x2 0/0", "o r4 0/0", "x1 c13 0/0", "x2 c13 0/0", "x3 c13 0/0", "x4 0/0", "x4 c13 0/0", "x5 c13 0/0", "o r5 0/0", "?5 0/0")
	for _, reader := range []int{math.MinInt, -2, -1, 0, 3, 4, 200, 1 << 32, 1<<32 + 1, math.MaxInt} {
		for _, op := range []impl.IndexOp{closes(reader), searches(reader, impl.Ask{Query: allLeaf().query(), Size: 9})} {
			ops := append(opsOf(t, "+a ! o o"), op)
			wantSameRun(t, small(), append(ops, opsOf(t, "?1 ?2 x1 x2")...))
			if o := lastRun(t, small(), ops); !sameObs(o, impl.IndexObs{Code: impl.ErrClosed, Live: 1, Segments: 1}) {
				t.Errorf("reader %d: %s", reader, shortObs(o))
			}
		}
	}
	var ops []impl.IndexOp
	for range 100 {
		ops = append(ops, opens())
	}
	for i := range 100 {
		ops = append(ops, closes(100-i))
	}
	for i, o := range mustRun(t, small(), ops) {
		if want := (impl.IndexObs{Reader: (i + 1) * btoi(i < 100)}); !sameObs(o, want) {
			t.Errorf("operation %d: %s", i, shortObs(o))
		}
	}
}

// All that can be asked of a search, of readers that see different things.
func TestReaderAnswersAsSearch(t *testing.T) {
	docs := sceneDocs()
	var asks []impl.Ask
	for _, text := range []string{"*", "cat", "cat dog", `"cat dog"~2`, "ca*", `tag:~"r*"`, "cot~1", "n:[-5 7]", "+cat -dog", "(cat dog red)@2^3", "none:x", "-*"} {
		q := queryOf(t, text)
		asks = append(asks, impl.Ask{Query: q, Size: 9}, impl.Ask{Query: q, From: 1, Size: 2, Sort: append(up("n"), down("year")...)}, impl.Ask{Query: q, Size: 9, Collapse: "tag"}, impl.Ask{Query: q, Size: 9, Behind: true, Last: last("d1", 300)}, impl.Ask{Query: q, Size: 1001}, impl.Ask{Query: q, Sort: up("body")}, impl.Ask{Query: q, Collapse: "none"})
	}
	told := 0
	for _, a := range append(asks, impl.Ask{}) {
		ops := []impl.IndexOp{opens()}
		for i, d := range docs {
			ops = append(ops, puts(d), refreshes(), opens(), searches(i+2, a), searches(1+i/2, a))
		}
		ops = append(ops, removes(docs[0].Id), searches(7, a), refreshes(), searches(7, a), opens(), searches(8, a))
		wantSameRun(t, scene(), ops)
		for i, o := range mustRun(t, scene(), ops) {
			if ops[i].Kind != impl.WSearch {
				continue
			}
			seen := docs[:min(ops[i].Reader-1, 6)]
			if ops[i].Reader == 8 {
				seen = docs[1:]
			}
			want, code := impl.Search(scene(), oneSegment(seen), a)
			if o.Code != code || !sameResult(o.Result, want) {
				t.Errorf("operation %d, %s: %s, want %s, code %d", i, shortAsk(a), shortObs(o), shortResult(want), code)
			}
			told += len(o.Result.Hits)
		}
	}
	if told < 500 {
		t.Errorf("only %d hits are told", told)
	}
}

// Scores count the documents that a reader sees, not those that are there.
func TestReaderScores(t *testing.T) {
	cat := impl.Ask{Query: queryOf(t, "cat"), Size: 9}
	ops := []impl.IndexOp{puts(docWith("a", textsIn("t", "cat"))), puts(docWith("b", textsIn("t", "dog dog dog"))), refreshes(), opens(), searches(1, cat)}
	for i := range 6 {
		ops = append(ops, puts(docWith(fmt.Sprint("x", i), textsIn("t", "cat dog"))), refreshes(), searches(1, cat))
	}
	ops = append(ops, removes("b"), refreshes(), searches(1, cat), opens(), searches(2, cat))
	list := mustRun(t, small(), ops)
	first := list[4].Result
	if first.Total != 1 || first.Hits[0].Score == 0 {
		t.Fatalf("%s", shortResult(first))
	}
	for i, o := range list {
		if ops[i].Kind == impl.WSearch && ops[i].Reader == 1 && !sameResult(o.Result, first) {
			t.Errorf("operation %d: %s, at first %s", i, shortResult(o.Result), shortResult(first))
		}
	}
	if now := list[len(list)-1].Result; now.Total != 7 || now.Hits[0].Id != "a" || now.Hits[0].Score == first.Hits[0].Score {
		t.Errorf("%s", shortResult(now))
	}
	wantSameRun(t, small(), ops)
}

// Searches of one reader, and of others of the same refresh, do not hang on what
// was asked of them before.
func TestReaderAskedOverAndOver(t *testing.T) {
	ops := []impl.IndexOp{}
	for _, d := range sceneDocs() {
		ops = append(ops, puts(d))
	}
	ops = append(ops, refreshes(), opens(), opens())
	texts := []string{"plain:dog", "cat", `"cat dog"`, "grams:ab*", "cat", "tag:red", "body:pet", `~"c*"`, "dog cat", "cat"}
	for i := range 60 {
		ops = append(ops, searches(1+i%2, impl.Ask{Query: queryOf(t, texts[i*7%10]), Size: 1 + i%5, From: i % 3}), searches(2-i%2, impl.Ask{Query: queryOf(t, texts[i*3%10]), Size: 9, Sort: down("n")}))
	}
	wantSameRun(t, scene(), ops)
}
