package tests

import (
	"strings"
	"testing"

	"loop.example/g00018/impl"
)

// Each kind alone, on nothing.
func TestStoreOfOneOperation(t *testing.T) {
	wantStoreTale(t, "+a 1 15/0 1")
	wantStoreTale(t, "-a c8 0 0/0 0")
	wantStoreTale(t, "s 0 0/0 0")
	wantStoreTale(t, "? 0 0/0 0")
	wantStoreTale(t, "!0 0 0/0 0")
	wantStoreTale(t, "!-1 0 0/0 0")
	wantStoreTale(t, "!9~0 0 0/0 0")
	wantStoreTale(t, "r c1 0 0/0 0")
	wantStoreTale(t)
}

// Each kind over and over.
func TestStoreOfOneKind(t *testing.T) {
	for _, word := range []string{"+a", "-a", "s", "?", "!0", "!99", "!99~3", "r"} {
		for _, ahead := range []string{"", "+a ", "+a s ", "+a +b ", "+a !0 ", "+a s !0 ", "+a !99 r "} {
			ops := storeOps(t, ahead+strings.Repeat(word+" ", 200))
			wantSameStore(t, small(), ops[:200])
		}
	}
	o := lastStore(t, small(), storeOps(t, strings.Repeat("+a ", 64)))
	if o.Seq != 64 || o.Bytes != 64*15 || o.Synced != 0 || o.Live != 1 {
		t.Errorf("%s", shortStoreObs(o))
	}
}

func TestStoreOfPuts(t *testing.T) {
	wantStoreTale(t, "+a 1 15/0 1", "+b 2 30/0 2", "+c 3 45/0 3", "? 3 45/0 3 3 a:0 b:1 c:2")
	// A document makes way for another one with its id; both records stand in the log.
	wantStoreTale(t, "+a 1 15/0 1", "+a 2 30/0 1", "? 2 30/0 1 1 a:1", "+b 3 45/0 2", "+a 4 60/0 2", "? 4 60/0 2 2 b:3 a:4", "+a 5 75/0 2", "? 5 75/0 2 2 b:3 a:6")
	// An id that is the beginning of another one is another one.
	wantStoreTale(t, "+a 1 15/0 1", "+ab 2 31/0 2", "+A 3 46/0 3", "+ab 4 62/0 3", "? 4 62/0 3 3 a:0 A:2 ab:3")
}

func TestStoreOfDeletes(t *testing.T) {
	wantStoreTale(t, "+a 1 15/0 1", "-a 2 23/0 0", "-a c8 2 23/0 0", "? 2 23/0 0", "+a 3 38/0 1", "? 3 38/0 1 1 a:4", "-a 4 46/0 0", "-a c8 4 46/0 0")
	wantStoreTale(t, "-a c8 0 0/0 0", "+a 1 15/0 1", "-b c8 1 15/0 1", "-aa c8 1 15/0 1", "-A c8 1 15/0 1", "+b 2 30/0 2", "+c 3 45/0 3", "-b 4 53/0 2", "? 4 53/0 2 2 a:1 c:6", "-a 5 61/0 1", "-b c8 5 61/0 1", "-c 6 69/0 0", "? 6 69/0 0")
	wantStoreTale(t, "+long 1 18/0 1", "-long 2 29/0 0")
}

func TestStoreOfSyncs(t *testing.T) {
	wantStoreTale(t, "s 0 0/0 0", "s 0 0/0 0", "+a 1 15/0 1", "s 1 15/15 1", "s 1 15/15 1", "+b 2 30/15 2", "-a 3 38/15 1", "s 3 38/38 1", "+c 4 53/38 2", "-a c8 4 53/38 2", "? 4 53/38 2 2 b:5 c:8", "s 4 53/53 2")
}

// What a search tells is what is in memory, synced or not; it changes nothing.
func TestStoreOfSearches(t *testing.T) {
	wantStoreTale(t, "? 0 0/0 0", "+a 1 15/0 1", "? 1 15/0 1 1 a:1", "? 1 15/0 1 1 a:1", "s 1 15/15 1", "? 1 15/15 1 1 a:1", "+a 2 30/15 1", "? 2 30/15 1 1 a:6", "-a 3 38/15 0", "? 3 38/15 0", "+b 4 53/15 1", "? 4 53/15 1 1 b:10", "!0 0 0/0 0", "? c14 0 0/0 0", "r 1 15/15 1", "? 1 15/15 1 1 a:1")
	var ops []impl.StoreOp
	for _, d := range sceneDocs() {
		ops = append(ops, keeps(d))
	}
	for _, text := range append(kindTexts(), "*", "cat dog", "+body:cat -tag:red", "pla*", "year:[* 0]") {
		q := queryOf(t, text)
		for _, a := range []impl.Ask{{Query: q, Size: 2, From: 1}, {Query: q, Size: 9, Collapse: "tag", Sort: up("year", "n")}} {
			run := append(ops[:len(ops):len(ops)], finds(a), drops("d2"), finds(a), syncs(), crashes(0), recovers(), finds(a))
			wantSameStore(t, scene(), run)
			list := mustStore(t, scene(), run)
			if want := mustSearch(t, scene(), oneSegment(sceneDocs()), a); !sameResult(list[len(ops)].Result, want) {
				t.Errorf("%s: %s, want %s", shortAsk(a), shortStoreObs(list[len(ops)]), shortResult(want))
			}
			if !sameResult(list[len(ops)+2].Result, list[len(ops)+6].Result) {
				t.Errorf("%s: %s, behind a crash %s", shortAsk(a), shortStoreObs(list[len(ops)+2]), shortStoreObs(list[len(ops)+6]))
			}
		}
	}
}

func TestStoreOfCrashes(t *testing.T) {
	// Nothing was written, or all of it is synced.
	wantStoreTale(t, "!0 0 0/0 0", "r 0 0/0 0", "? 0 0/0 0", "+a 1 15/0 1")
	wantStoreTale(t, "+a 1 15/0 1", "s 1 15/15 1", "!0 0 0/0 0", "r 1 15/15 1", "? 1 15/15 1 1 a:0")
	wantStoreTale(t, "+a 1 15/0 1", "s 1 15/15 1", "!99~0 0 0/0 0", "r 1 15/15 1", "? 1 15/15 1 1 a:0")
	// Nothing was synced.
	wantStoreTale(t, "+a 1 15/0 1", "!0 0 0/0 0", "r 0 0/0 0", "? 0 0/0 0")
	wantStoreTale(t, "+a 1 15/0 1", "!-5 0 0/0 0", "r 0 0/0 0", "? 0 0/0 0")
	wantStoreTale(t, "+a 1 15/0 1", "!14 0 0/0 0", "r 0 0/0 0", "? 0 0/0 0")
	wantStoreTale(t, "+a 1 15/0 1", "!15 0 0/0 0", "r 1 15/15 1", "? 1 15/15 1 1 a:0")
	wantStoreTale(t, "+a 1 15/0 1", "!16 0 0/0 0", "r 1 15/15 1", "? 1 15/15 1 1 a:0")
	// A put, a delete and a put that were not synced, behind one that was.
	wantStoreTale(t, "+a 1 15/0 1", "s 1 15/15 1", "+b 2 30/15 2", "-a 3 38/15 1", "+c 4 53/15 2", "!37 0 0/0 0", "r 3 38/38 1", "? 3 38/38 1 1 b:2")
	wantStoreTale(t, "+a 1 15/0 1", "s 1 15/15 1", "+b 2 30/15 2", "-a 3 38/15 1", "+c 4 53/15 2", "!22 0 0/0 0", "r 2 30/30 2", "? 2 30/30 2 2 a:0 b:2")
	wantStoreTale(t, "+a 1 15/0 1", "s 1 15/15 1", "+b 2 30/15 2", "-a 3 38/15 1", "+c 4 53/15 2", "!38 0 0/0 0", "r 4 53/53 2", "? 4 53/53 2 2 b:2 c:4")
	// A document that was replaced, or deleted, is there again.
	wantStoreTale(t, "+a 1 15/0 1", "s 1 15/15 1", "+a 2 30/15 1", "? 2 30/15 1 1 a:2", "!14 0 0/0 0", "r 1 15/15 1", "? 1 15/15 1 1 a:0")
	wantStoreTale(t, "+a 1 15/0 1", "s 1 15/15 1", "-a 2 23/15 0", "!7 0 0/0 0", "r 1 15/15 1", "? 1 15/15 1 1 a:0")
	wantStoreTale(t, "+a 1 15/0 1", "s 1 15/15 1", "-a 2 23/15 0", "!8 0 0/0 0", "r 2 23/23 0", "? 2 23/23 0")
}

func TestStoreOfFlips(t *testing.T) {
	// The first and the last byte that was kept, those about them, and none.
	wantStoreTale(t, "+a 1 15/0 1", "s 1 15/15 1", "+b 2 30/15 2", "!15~0 0 0/0 0", "r 1 15/15 1", "? 1 15/15 1 1 a:0")
	wantStoreTale(t, "+a 1 15/0 1", "s 1 15/15 1", "+b 2 30/15 2", "!15~14 0 0/0 0", "r 1 15/15 1", "? 1 15/15 1 1 a:0")
	wantStoreTale(t, "+a 1 15/0 1", "s 1 15/15 1", "+b 2 30/15 2", "!15~15 0 0/0 0", "r 2 30/30 2", "? 2 30/30 2 2 a:0 b:2")
	wantStoreTale(t, "+a 1 15/0 1", "s 1 15/15 1", "+b 2 30/15 2", "!15~-1 0 0/0 0", "r 2 30/30 2", "? 2 30/30 2 2 a:0 b:2")
	wantStoreTale(t, "+a 1 15/0 1", "s 1 15/15 1", "+b 2 30/15 2", "!99~7 0 0/0 0", "r 1 15/15 1", "? 1 15/15 1 1 a:0")
	wantStoreTale(t, "+a 1 15/0 1", "s 1 15/15 1", "+b 2 30/15 2", "!99~99 0 0/0 0", "r 2 30/30 2")
	// A place that was not kept.
	wantStoreTale(t, "+a 1 15/0 1", "s 1 15/15 1", "+b 2 30/15 2", "+c 3 45/15 3", "!15~20 0 0/0 0", "r 2 30/30 2", "? 2 30/30 2 2 a:0 b:2")
	wantStoreTale(t, "+a 1 15/0 1", "s 1 15/15 1", "+b 2 30/15 2", "!0~0 0 0/0 0", "r 1 15/15 1")
	// In the second of three records, and in the third: those behind are gone, too.
	wantStoreTale(t, "+a 1 15/0 1", "+b 2 30/0 2", "+c 3 45/0 3", "!99~15 0 0/0 0", "r 1 15/15 1", "? 1 15/15 1 1 a:0")
	wantStoreTale(t, "+a 1 15/0 1", "+b 2 30/0 2", "+c 3 45/0 3", "!99~30 0 0/0 0", "r 2 30/30 2", "? 2 30/30 2 2 a:0 b:1")
	wantStoreTale(t, "+a 1 15/0 1", "+b 2 30/0 2", "+c 3 45/0 3", "!45~44 0 0/0 0", "r 2 30/30 2", "? 2 30/30 2 2 a:0 b:1")
	wantStoreTale(t, "+a 1 15/0 1", "+b 2 30/0 2", "+c 3 45/0 3", "!45~45 0 0/0 0", "r 3 45/45 3", "? 3 45/45 3 3 a:0 b:1 c:2")
	wantStoreTale(t, "+a 1 15/0 1", "+b 2 30/0 2", "+c 3 45/0 3", "!45~0 0 0/0 0", "r 0 0/0 0", "? 0 0/0 0")
}

// While it is down nothing but a recovery is done, and while it is up no recovery.
func TestStoreWhileDown(t *testing.T) {
	wantStoreTale(t, "+a 1 15/0 1", "s 1 15/15 1", "r c1 1 15/15 1", "!0 0 0/0 0", "+b c14 0 0/0 0", "-a c14 0 0/0 0", "s c14 0 0/0 0", "? c14 0 0/0 0", "!0 c14 0 0/0 0", "!99~0 c14 0 0/0 0", "r 1 15/15 1", "r c1 1 15/15 1", "? 1 15/15 1 1 a:0")
	// A sync, or another crash, while it is down does not change what is on the disk.
	wantStoreTale(t, "+a 1 15/0 1", "+b 2 30/0 2", "!20 0 0/0 0", "s c14 0 0/0 0", "!0 c14 0 0/0 0", "!-1 c14 0 0/0 0", "!20~3 c14 0 0/0 0", "r 1 15/15 1", "? 1 15/15 1 1 a:0")
	// Nor does a recovery while it is up: what was not synced is not synced.
	wantStoreTale(t, "+a 1 15/0 1", "r c1 1 15/0 1", "!0 0 0/0 0", "r 0 0/0 0", "r c1 0 0/0 0")
}

// Several crashes in one run; what is written behind a recovery takes the place of
// what is gone.
func TestStoreOfManyCrashes(t *testing.T) {
	wantStoreTale(t, "+a 1 15/0 1", "s 1 15/15 1", "+b 2 30/15 2", "+c 3 45/15 3", "!20 0 0/0 0", "r 2 30/30 2", "+d 3 45/30 3", "? 3 45/30 3 3 a:0 b:2 d:6", "!15 0 0/0 0", "r 3 45/45 3", "? 3 45/45 3 3 a:0 b:2 d:6", "-a 4 53/45 2", "+e 5 68/45 3", "!22 0 0/0 0", "r 4 53/53 2", "? 4 53/53 2 2 b:2 d:6", "!99 0 0/0 0", "r 4 53/53 2", "!-1 0 0/0 0", "r 4 53/53 2", "? 4 53/53 2 2 b:2 d:6")
	wantStoreTale(t, "+a 1 15/0 1", "!99~3 0 0/0 0", "r 0 0/0 0", "+b 1 15/0 1", "!99 0 0/0 0", "r 1 15/15 1", "? 1 15/15 1 1 b:3", "-b 2 23/15 0", "!99~7 0 0/0 0", "r 1 15/15 1", "-b 2 23/15 0", "s 2 23/23 0", "!99~7 0 0/0 0", "r 2 23/23 0", "+c 3 38/23 1")
	// Torn bytes that were kept are not there any more when more is written.
	wantStoreTale(t, "+a 1 15/0 1", "!14 0 0/0 0", "r 0 0/0 0", "+b 1 15/0 1", "s 1 15/15 1", "!0 0 0/0 0", "r 1 15/15 1", "? 1 15/15 1 1 b:3")
	wantStoreTale(t, "+a 1 15/0 1", "+b 2 30/0 2", "+c 3 45/0 3", "!45~16 0 0/0 0", "r 1 15/15 1", "-a 2 23/15 0", "!45 0 0/0 0", "r 2 23/23 0", "? 2 23/23 0")
}
