package tests

import (
	"fmt"
	"math/rand"
	"slices"
	"testing"

	"loop.example/g00018/impl"
)

func pieceId(segment, i int) string {
	return fmt.Sprintf("%c%d", 'a'+segment, i)
}

// piecesOf tells operations that make segments with so many documents each.
func piecesOf(sizes []int) []impl.IndexOp {
	var ops []impl.IndexOp
	for segment, size := range sizes {
		for i := range size {
			ops = append(ops, puts(docWith(pieceId(segment, i))))
		}
		ops = append(ops, refreshes())
	}
	return ops
}

func withoutPiece(ops []impl.IndexOp, segment, size int) []impl.IndexOp {
	ops = slices.Clone(ops)
	for i := range size {
		ops = append(ops, removes(pieceId(segment, i)))
	}
	return append(ops, refreshes())
}

// togetherWith tells of each of the pieces whether its segment has documents of
// another one too: if not, it goes with them.
func togetherWith(t *testing.T, ops []impl.IndexOp, sizes []int) []bool {
	t.Helper()
	before := lastRun(t, small(), ops).Segments
	var list []bool
	for segment, size := range sizes {
		ops := withoutPiece(ops, segment, size)
		wantSameRun(t, small(), ops)
		list = append(list, lastRun(t, small(), ops).Segments == before)
	}
	return list
}

// leastNeighbours tells where the two with the least sum stand first.
func leastNeighbours(sizes []int) int {
	at := 0
	for i := range len(sizes) - 1 {
		if sizes[i]+sizes[i+1] < sizes[at]+sizes[at+1] {
			at = i
		}
	}
	return at
}

// Five segments of every small size: which two become one.
func TestMergeOfEachFive(t *testing.T) {
	sizes := make([]int, 5)
	for code := range 243 {
		for i, rest := 0, code; i < 5; i, rest = i+1, rest/3 {
			sizes[i] = 1 + rest%3
		}
		ops := piecesOf(sizes)
		if o := lastRun(t, small(), ops); o.Segments != 4 {
			t.Fatalf("%v: %s", sizes, shortObs(o))
		}
		want := make([]bool, 5)
		at := leastNeighbours(sizes)
		want[at], want[at+1] = true, true
		if got := togetherWith(t, ops, sizes); !slices.Equal(got, want) {
			t.Errorf("%v: together are %v, want %v", sizes, got, want)
		}
	}
}

// Sizes written down, with the place of the two that become one.
func TestMergeWritten(t *testing.T) {
	for _, c := range []struct {
		sizes []int
		at    int
	}{
		{[]int{1, 1, 1, 1, 1}, 0}, {[]int{3, 1, 1, 2, 1}, 1}, {[]int{5, 4, 3, 2, 1}, 3}, {[]int{1, 2, 3, 4, 5}, 0}, {[]int{2, 9, 1, 9, 1}, 1}, {[]int{9, 1, 9, 1, 9}, 0}, {[]int{9, 2, 9, 1, 9}, 2}, {[]int{9, 9, 9, 9, 1}, 3}, {[]int{30, 1, 30, 2, 2}, 3}, {[]int{3, 3, 2, 4, 1}, 1}, {[]int{3, 2, 3, 2, 3}, 0}, {[]int{4, 3, 2, 3, 4}, 1}, {[]int{20, 20, 20, 20, 20}, 0},
	} {
		want := make([]bool, 5)
		want[c.at], want[c.at+1] = true, true
		if got := togetherWith(t, piecesOf(c.sizes), c.sizes); !slices.Equal(got, want) {
			t.Errorf("%v: together are %v, want %v", c.sizes, got, want)
		}
	}
}

// Up to four segments are left as they are, however few documents they have.
func TestNoMergeOfFew(t *testing.T) {
	for n := 1; n <= 4; n++ {
		sizes := []int{1, 1, 2, 1}[:n]
		ops := piecesOf(sizes)
		if o := lastRun(t, small(), ops); o.Segments != n {
			t.Errorf("%v: %s", sizes, shortObs(o))
		}
		if got := togetherWith(t, ops, sizes); slices.Contains(got, true) {
			t.Errorf("%v: together are %v", sizes, got)
		}
	}
}

// What was deleted does not count, and a segment of which nothing is left is gone
// ahead of the merge, so that there may be none.
func TestMergeCountsWhatIsThere(t *testing.T) {
	sizes := []int{6, 3, 3, 6}
	for _, c := range []struct {
		deleted []int // of each segment so many
		fresh   int
		want    []bool
	}{
		{[]int{0, 0, 0, 0}, 9, []bool{false, true, true, false, false}},
		{[]int{5, 0, 0, 0}, 9, []bool{true, true, false, false, false}},
		{[]int{0, 0, 0, 5}, 9, []bool{false, false, true, true, false}},
		{[]int{4, 0, 0, 4}, 9, []bool{true, true, false, false, false}},
		{[]int{0, 0, 0, 5}, 1, []bool{false, false, false, true, true}},
		{[]int{3, 0, 0, 3}, 9, []bool{true, true, false, false, false}},
		{[]int{0, 2, 0, 5}, 2, []bool{false, false, false, true, true}},
		{[]int{6, 0, 0, 0}, 9, []bool{true, false, false, false, false}},
		{[]int{0, 3, 0, 0}, 9, []bool{false, true, false, false, false}},
		{[]int{6, 3, 3, 6}, 1, []bool{true, true, true, true, false}},
	} {
		ops := piecesOf(sizes)
		for segment, n := range c.deleted {
			for i := range n {
				ops = append(ops, removes(pieceId(segment, i)))
			}
		}
		for i := range c.fresh {
			ops = append(ops, puts(docWith(pieceId(4, i))))
		}
		ops = append(ops, refreshes())
		want := c.want
		empty := 0
		for i := range sizes {
			empty += btoi(c.deleted[i] == sizes[i])
		}
		if o := lastRun(t, small(), ops); o.Segments != min(4, 5-empty) {
			t.Errorf("%v, %d more: %s", c.deleted, c.fresh, shortObs(o))
		}
		// A piece that is gone already leaves the number as it is when it is deleted
		// again, so it is told as together.
		if got := togetherWith(t, ops, append(slices.Clone(sizes), c.fresh)); !slices.Equal(got, want) {
			t.Errorf("%v, %d more: together are %v, want %v", c.deleted, c.fresh, got, want)
		}
	}
}

// A put of an id that is in a segment takes the document out of it and puts it into
// the last one: both sizes change.
func TestMergeOfMovedDocuments(t *testing.T) {
	sizes := []int{3, 3, 3, 3}
	for segment := range 4 {
		for moved := range 4 {
			ops := piecesOf(sizes)
			for i := range moved {
				ops = append(ops, puts(docWith(pieceId(segment, i), numbersIn("n", 1))))
			}
			ops = append(ops, puts(docWith("x")), puts(docWith("y")), refreshes())
			wantSameRun(t, small(), ops)
			if o := lastRun(t, small(), ops); o.Segments != 4 || o.Live != 14 {
				t.Errorf("%d of segment %d: %s", moved, segment, shortObs(o))
			}
			togetherWith(t, append(ops, opens()), sizes)
		}
	}
}

// Merges of what was merged, through long runs; each piece is looked for in the end.
func TestMergeOfManySegments(t *testing.T) {
	source := rand.New(rand.NewSource(61))
	for range 40 {
		sizes := make([]int, 5+source.Intn(20))
		for i := range sizes {
			sizes[i] = 1 + source.Intn(4)
		}
		ops := piecesOf(sizes)
		for i, o := range mustRun(t, small(), ops) {
			if o.Segments > 4 || o.Version != 0 && o.Version != o.Live {
				t.Fatalf("%v: operation %d: %s", sizes, i, shortObs(o))
			}
		}
		togetherWith(t, ops, sizes)
		// Neighbours that go together show how far a segment reaches.
		for at := range sizes[1:] {
			both := withoutPiece(withoutPiece(ops, at, sizes[at])[:len(ops)+sizes[at]], at+1, sizes[at+1])
			wantSameRun(t, small(), both)
		}
	}
}

// The order of segments and of the documents in them is not to be seen, but which
// are together is; a search finds them all behind each merge.
func TestMergeLosesNothing(t *testing.T) {
	all := impl.Ask{Query: allLeaf().query(), Size: 1000}
	var ops []impl.IndexOp
	for i := range 45 {
		ops = append(ops, puts(docWith(fmt.Sprintf("%02d", i))), refreshes(), opens(), searches(i+1, all))
	}
	for i, o := range mustRun(t, small(), ops) {
		n := i/4 + 1
		if i%4 == 3 && (o.Result.Total != n || len(o.Result.Hits) != n || o.Segments != min(n, 4) || o.Result.Hits[n-1].Id != fmt.Sprintf("%02d", n-1)) {
			t.Errorf("operation %d: %s", i, shortObs(o))
		}
	}
	wantSameRun(t, small(), ops)
}
