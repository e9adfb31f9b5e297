package tests

import (
	"fmt"
	"math"
	"testing"

	"loop.example/g00018/impl"
)

func TestWriterConstants(t *testing.T) {
	if impl.MaxIndexOps != 200 || impl.MaxSegments != 4 {
		t.Errorf("the limits are %d and %d", impl.MaxIndexOps, impl.MaxSegments)
	}
	kinds := [7]int{impl.WPut, impl.WDelete, impl.WRefresh, impl.WOpen, impl.WClose, impl.WSearch, impl.WGet}
	if kinds != [7]int{1, 2, 3, 4, 5, 6, 7} {
		t.Errorf("the kinds are %v", kinds)
	}
}

// Each kind alone, on nothing.
func TestRunOfOneOperation(t *testing.T) {
	wantTale(t, "+a v1 1/0")
	wantTale(t, "+a@-1 v1 1/0")
	wantTale(t, "+a@1 c8 0/0")
	wantTale(t, "+a@-2 c1 0/0")
	wantTale(t, "-a c8 0/0")
	wantTale(t, "-a@1 c8 0/0")
	wantTale(t, "-a@-1 c1 0/0")
	wantTale(t, "! 0/0")
	wantTale(t, "o r1 0/0")
	wantTale(t, "x1 c13 0/0")
	wantTale(t, "?1 c13 0/0")
	wantTale(t, "=a c8 0/0")
	wantTale(t)
}

// Each kind over and over.
func TestRunOfOneKind(t *testing.T) {
	for _, word := range []string{"+a", "-a", "!", "o", "x1", "?1", "=a", "+a@1", "+a@-1"} {
		text := ""
		for range 200 {
			text += word + " "
		}
		for _, ahead := range []string{"", "+a ", "o ", "+a ! ", "+a ! o "} {
			ops := opsOf(t, ahead+text)
			wantSameRun(t, small(), ops[:200])
		}
	}
	o := lastRun(t, small(), opsOf(t, "+a +a +a +a ! +a +a ! +a"))
	if o.Version != 7 || o.Live != 1 || o.Segments != 1 {
		t.Errorf("%s", shortObs(o))
	}
}

func TestRunOfPuts(t *testing.T) {
	wantTale(t, "+a v1 1/0", "+b v2 2/0", "+c v3 3/0", "! 3/1", "+d v4 4/1", "! 4/2", "o r1 4/2", "?1 4/2 4 a:0 b:1 c:2 d:4")
	// A document that waits makes way for another one with its id, as does one in a
	// segment; the new one waits.
	wantTale(t, "+a v1 1/0", "+a v2 1/0", "+a v3 1/0", "! 1/1", "o r1 1/1", "?1 1/1 1 a:2")
	wantTale(t, "+a v1 1/0", "! 1/1", "+a v2 1/1", "o r1 1/1", "?1 1/1 1 a:0", "! 1/1", "o r2 1/1", "?2 1/1 1 a:2", "?1 1/1 1 a:0")
	wantTale(t, "+a v1 1/0", "+b v2 2/0", "! 2/1", "+a v3 2/1", "! 2/2", "o r1 2/2", "?1 2/2 2 b:1 a:3", "+b v4 2/2", "! 2/2", "o r2 2/2", "?2 2/2 2 a:3 b:7")
}

func TestRunOfDeletes(t *testing.T) {
	wantTale(t, "+a v1 1/0", "-a v2 0/0", "-a c8 0/0", "! 0/0", "+a v3 1/0", "! 1/1", "-a v4 0/1", "-a c8 0/1", "! 0/0")
	wantTale(t, "+a v1 1/0", "+b v2 2/0", "-a v3 1/0", "! 1/1", "o r1 1/1", "?1 1/1 1 b:1", "-b v4 0/1", "=b c8 0/1", "o r2 0/1", "?2 0/1 1 b:1", "! 0/0", "o r3 0/0", "?3 0/0")
	// One that waits in place of one in a segment is gone whole.
	wantTale(t, "+a v1 1/0", "! 1/1", "+a v2 1/1", "-a v3 0/1", "=a c8 0/1", "! 0/0", "o r1 0/0", "?1 0/0")
}

func TestRunOfRefreshes(t *testing.T) {
	// With nothing that waits.
	wantTale(t, "! 0/0", "! 0/0", "+a v1 1/0", "! 1/1", "! 1/1", "! 1/1", "o r1 1/1", "?1 1/1 1 a:2")
	// Where all that waited is gone.
	wantTale(t, "+a v1 1/0", "+b v2 2/0", "-a v3 1/0", "-b v4 0/0", "! 0/0", "+c v5 1/0", "! 1/1")
	// Segments of which nothing is left, at the head, within and at the end.
	wantTale(t, "+a v1 1/0", "! 1/1", "+b v2 2/1", "! 2/2", "+c v3 3/2", "! 3/3", "-a v4 2/3", "! 2/2", "-c v5 1/2", "! 1/1", "-b v6 0/1", "! 0/0")
	wantTale(t, "+a v1 1/0", "! 1/1", "+b v2 2/1", "! 2/2", "+c v3 3/2", "! 3/3", "-b v4 2/3", "! 2/2", "o r1 2/2", "?1 2/2 2 a:0 c:4")
	wantTale(t, "+a v1 1/0", "! 1/1", "+b v2 2/1", "! 2/2", "+c v3 3/2", "! 3/3", "-a v4 2/3", "-b v5 1/3", "-c v6 0/3", "! 0/0", "+d v7 1/0", "! 1/1")
	// The last one of a segment waits anew: one goes, one comes.
	wantTale(t, "+a v1 1/0", "! 1/1", "+a v2 1/1", "! 1/1", "+a v3 1/1", "+b v4 2/1", "! 2/1", "+a v5 2/1", "! 2/2")
}

func TestRunOfGets(t *testing.T) {
	wantTale(t, "=a c8 0/0", "+a v1 1/0", "=a v1 1/0", "! 1/1", "=a v1 1/1", "+a v2 1/1", "=a v2 1/1", "! 1/1", "=a v2 1/1", "-a v3 0/1", "=a c8 0/1", "! 0/0", "=a c8 0/0", "+a v4 1/0", "=a v4 1/0", "=b c8 1/0", "+b v5 2/0", "=a v4 2/0", "=b v5 2/0")
	// Another id, however like it is.
	wantTale(t, "+ab v1 1/0", "=a c8 1/0", "=abc c8 1/0", "=AB c8 1/0", "=ab v1 1/0", "=b c8 1/0")
}

// A versioned is a run behind which a document has a version, 0 if it is not there.
type versioned struct {
	text                    string
	last, there, live, segs int
}

func versionedRuns() []versioned {
	return []versioned{
		{"", 0, 0, 0, 0}, {"!", 0, 0, 0, 0}, {"+b +c !", 2, 0, 2, 1}, {"+a", 1, 1, 1, 0}, {"+b +a", 2, 2, 2, 0}, {"+a +b", 2, 1, 2, 0}, {"+a +a", 2, 2, 1, 0}, {"+a !", 1, 1, 1, 1}, {"+b +a ! +c", 3, 2, 3, 1}, {"+a ! +b !", 2, 1, 2, 2}, {"+a ! +a", 2, 2, 1, 1}, {"+a ! +a !", 2, 2, 1, 1},
		{"+a -a", 2, 0, 0, 0}, {"+a ! -a", 2, 0, 0, 1}, {"+a ! -a !", 2, 0, 0, 0}, {"+a -a +a", 3, 3, 1, 0}, {"+a ! -a +a", 3, 3, 1, 1}, {"+a ! -a +a !", 3, 3, 1, 1}, {"+a ! +b ! +c ! +d ! +e !", 5, 1, 5, 4}, {"+b ! +c ! +a ! +d ! +e ! +f !", 6, 3, 6, 4}, {"+a o ! o +a -a +a ! -a ! +a x1", 6, 6, 1, 0},
	}
}

func changeCodeOf(kind, version, there int) int {
	switch {
	case version < -1 || version == -1 && kind == impl.WDelete:
		return impl.ErrBad
	case version == -1 && there > 0:
		return impl.ErrExists
	case there == 0 && (version > 0 || kind == impl.WDelete):
		return impl.ErrMissing
	case version > 0 && version != there:
		return impl.ErrVersion
	}
	return impl.OK
}

// Every version that may be asked for, of a put and of a delete, in every state of
// the document; and that one with a code takes no version and changes nothing.
func TestRunOfEachVersion(t *testing.T) {
	for _, run := range versionedRuns() {
		for _, version := range []int{math.MinInt, -1000, -3, -2, -1, 0, 1, 2, 3, 4, 5, 6, 7, 8, 1000, math.MaxInt} {
			for _, kind := range []int{impl.WPut, impl.WDelete} {
				op := impl.IndexOp{Kind: kind, Version: version}
				if kind == impl.WPut {
					op.Doc = docWith("a", numbersIn("n", 99))
				} else {
					op.Id = "a"
				}
				ops := append(opsOf(t, run.text), op, getsVersion("a"), refreshes(), getsVersion("a"), puts(docWith("zz")))
				wantSameRun(t, small(), ops)
				told := mustRun(t, small(), ops)[len(ops)-5:]
				want := impl.IndexObs{Code: changeCodeOf(kind, version, run.there), Live: run.live, Segments: run.segs}
				there, last := run.there, run.last
				if want.Code == impl.OK {
					last++
					want.Version = last
					want.Live -= btoi(there > 0)
					there = 0
					if kind == impl.WPut {
						there = last
						want.Live++
					}
				}
				what := fmt.Sprintf("behind %q kind %d with version %d", run.text, kind, version)
				if !sameObs(told[0], want) {
					t.Errorf("%s: %s, want %s", what, shortObs(told[0]), shortObs(want))
				}
				for _, o := range []impl.IndexObs{told[1], told[3]} {
					if o.Version != there || (o.Code == impl.ErrMissing) != (there == 0) || o.Live != want.Live {
						t.Errorf("%s: then %s, want version %d", what, shortObs(o), there)
					}
				}
				if told[4].Version != last+1 || told[4].Live != want.Live+1 {
					t.Errorf("%s: the next put: %s", what, shortObs(told[4]))
				}
			}
		}
	}
}

// Behind a put with a code the document that was there is there still, with all
// that it has.
func TestRunChangesNothingWithACode(t *testing.T) {
	wantTale(t, "+a v1 1/0", "+a@-1 c7 1/0", "+a@7 c9 1/0", "+a@-2 c1 1/0", "! 1/1", "o r1 1/1", "?1 1/1 1 a:0", "-a@7 c9 1/1", "-a@-1 c1 1/1", "-b c8 1/1", "+b@1 c8 1/1", "! 1/1", "o r2 1/1", "?2 1/1 1 a:0", "+b v2 2/1")
	// A code does not make what waits a segment, nor does it move it to the end.
	wantTale(t, "x1 c13 0/0", "+a v1 1/0", "x1 c13 1/0", "?1 c13 1/0", "=b c8 1/0", "o r1 1/0", "?1 1/0", "x2 c13 1/0", "! 1/1", "?1 1/1", "x1 1/1", "x1 c13 1/1")
}
