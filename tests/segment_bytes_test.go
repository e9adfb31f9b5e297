package tests

import (
	"bytes"
	"math/rand"
	"slices"
	"strings"
	"testing"

	"loop.example/g00018/impl"
)

func TestSegmentBytesWritten(t *testing.T) {
	docs := []impl.Doc{docWith("a", numbersIn("n", 2, -1), textsIn("t", "x y x")), docWith("b", textsIn("t", "y"), textsIn("w", "q"))}
	g, code := impl.BuildSegment(small(), docs)
	if code != impl.OK {
		t.Fatalf("code %d", code)
	}
	want := slices.Concat(
		[]byte{2},
		[]byte{19}, []byte{1, 'a', 2, 1, 'n', 0, 2, 4, 1, 1, 't', 1, 5, 'x', ' ', 'y', ' ', 'x', 0},
		[]byte{15}, []byte{1, 'b', 2, 1, 't', 1, 1, 'y', 0, 1, 'w', 1, 1, 'q', 0},
		[]byte{11}, summed([]byte{2, 4, 'x', 1, 'y', 1, 1}),
		[]byte{1, 0}, []byte{1, 2, 2}, []byte{2, 2, 8},
		[]byte{2, 0}, []byte{2, 1, 3}, []byte{1, 1, 1}, []byte{1, 0},
		[]byte{2, 2, 7},
		[]byte{9}, summed([]byte{2, 2, 'q', 1, 1}),
		[]byte{1, 1, 1}, []byte{1, 1, 1}, []byte{1, 0},
		[]byte{2, 1, 2},
	)
	wantSegmentBytes(t, small(), g, summed(want), impl.OK)
	wantReadSegment(t, small(), summed(want), g, impl.OK)
	none := slices.Concat([]byte{0, 6}, summed([]byte{1, 0}), []byte{0, 6}, summed([]byte{1, 0}), []byte{0})
	g, _ = impl.BuildSegment(small(), nil)
	wantSegmentBytes(t, small(), g, summed(none), impl.OK)
	wantReadSegment(t, small(), summed(none), g, impl.OK)
	// A field of numbers has no bytes of its own.
	g, _ = impl.BuildSegment(schemaOf(numberField("n")), nil)
	wantSegmentBytes(t, schemaOf(numberField("n")), g, summed([]byte{0}), impl.OK)
}

// Lists, counts and places of more than one block, and documents with long bytes.
func TestSegmentBytesOfGreatLists(t *testing.T) {
	docs := numbered(200)
	for i := range docs {
		docs[i].Values = []impl.Value{textsIn("t", strings.Repeat("x ", i)+strings.Repeat("y ", i%2))}
	}
	docs[7].Values = []impl.Value{textsIn("t", strings.Repeat("x y ", 900), strings.Repeat(" ", 200), "x y")}
	g, b := wantSegmentBack(t, small(), docs)
	if len(g.Fields[1].Lists[0]) < 129 || len(g.Fields[1].Lists[0][6].Pos) != 901 || len(b) == 0 {
		t.Fatalf("the lists are too short")
	}
}

// sampleSegments tells schemas with documents whose segments have few bytes.
func sampleSegments() []struct {
	s    impl.Schema
	docs []impl.Doc
} {
	folded := schemaOf(textField("a", impl.Analyzer{Fold: true}), wordField("b"))
	return []struct {
		s    impl.Schema
		docs []impl.Doc
	}{
		{small(), nil}, {schemaOf(numberField("n")), []impl.Doc{docWith("x", numbersIn("n", 5, 4))}},
		{small(), []impl.Doc{docWith("a", numbersIn("n", 2, -1), textsIn("t", "x y x")), docWith("b", textsIn("t", "y"), textsIn("w", "q"))}},
		{folded, []impl.Doc{docWith("a", textsIn("a", "X x, y", "z"), textsIn("b", "X", "x")), docWith("b"), docWith("c", textsIn("a", "y"))}},
	}
}

// wantSameSegmentRead holds bytes, right or wrong, against the document's words.
// The documents tell all else: bytes that differ only behind them are wrong.
func wantSameSegmentRead(t *testing.T, s impl.Schema, b, right []byte) {
	t.Helper()
	if !bytes.Equal(b, right) && behindDocs(b, right) {
		wantReadSegment(t, s, b, impl.Segment{}, impl.ErrCorrupt)
		return
	}
	g, code := segmentIn(s, b)
	wantReadSegment(t, s, b, g, code)
}

// behindDocs tells whether b begins with the same documents as right.
func behindDocs(b, right []byte) bool {
	p := docPlace{b: right}
	for range p.number() {
		p.text()
	}
	return bytes.HasPrefix(b, right[:p.at])
}

func TestReadSegmentCutShort(t *testing.T) {
	for _, sample := range sampleSegments() {
		_, b := wantSegmentBack(t, sample.s, sample.docs)
		for size := range len(b) {
			wantReadSegment(t, sample.s, b[:size], impl.Segment{}, impl.ErrCorrupt)
			wantSameSegmentRead(t, sample.s, summed(b[:size]), b)
			wantReadSegment(t, sample.s, b[len(b)-size:], impl.Segment{}, impl.ErrCorrupt)
		}
		for more := range 256 {
			wantReadSegment(t, sample.s, append(slices.Clone(b), byte(more)), impl.Segment{}, impl.ErrCorrupt)
			wantReadSegment(t, sample.s, summed(append(slices.Clone(b[:len(b)-4]), byte(more))), impl.Segment{}, impl.ErrCorrupt)
		}
		wantReadSegment(t, sample.s, summed(b), impl.Segment{}, impl.ErrCorrupt)
		wantReadSegment(t, sample.s, slices.Concat(b, b), impl.Segment{}, impl.ErrCorrupt)
	}
}

// Every byte made every other one, with the sum as it was and made anew.
func TestReadSegmentOfChangedBytes(t *testing.T) {
	for _, sample := range sampleSegments() {
		_, b := wantSegmentBack(t, sample.s, sample.docs)
		for i := range b {
			for by := 1; by < 256; by++ {
				c := slices.Clone(b)
				c[i] ^= byte(by)
				wantReadSegment(t, sample.s, c, impl.Segment{}, impl.ErrCorrupt)
				if i < len(b)-4 {
					wantSameSegmentRead(t, sample.s, summed(c[:len(c)-4]), b)
				}
			}
		}
	}
}

// A byte left out, doubled, or changed about with the next one, the sum made anew.
func TestReadSegmentOfMovedBytes(t *testing.T) {
	for _, sample := range sampleSegments() {
		_, b := wantSegmentBack(t, sample.s, sample.docs)
		body := b[:len(b)-4]
		for i := range body {
			wantSameSegmentRead(t, sample.s, summed(slices.Delete(slices.Clone(body), i, i+1)), b)
			for _, other := range []byte{0, 1, body[i], body[i] | 128, 255} {
				wantSameSegmentRead(t, sample.s, summed(slices.Insert(slices.Clone(body), i, other)), b)
			}
			if i > 0 {
				c := slices.Clone(body)
				c[i], c[i-1] = c[i-1], c[i]
				wantSameSegmentRead(t, sample.s, summed(c), b)
			}
		}
	}
}

// The number of documents and of their bytes may be any number.
func TestReadSegmentOfGreatNumbers(t *testing.T) {
	s := small()
	one, _ := docBytesOf(docWith("a"))
	for _, count := range []int{0, 1, 2, 255, 256, 257, 1 << 20, 1 << 32, greatest} {
		for _, size := range []int{0, 1, len(one) - 1, len(one), len(one) + 1, 1 << 20, 1<<20 + 1, 1 << 40, greatest} {
			body := append(putBehind(putBehind(nil, count), size), one...)
			rest := slices.Concat([]byte{6}, summed([]byte{1, 0}), []byte{1, 0, 6}, summed([]byte{1, 0}), []byte{1, 0})
			for _, b := range [][]byte{body, append(slices.Clone(body), rest...)} {
				want, code := segmentIn(s, summed(b))
				wantReadSegment(t, s, summed(b), want, code)
				if right := count == 1 && size == len(one) && len(b) > len(body); right != (code == impl.OK) {
					t.Fatalf("the second telling: %d documents, %d bytes: code %d", count, size, code)
				}
			}
		}
	}
	// A number that is longer than it need be.
	for _, b := range [][]byte{{128, 0}, {0x80, 0x80, 0}, bytes.Repeat([]byte{255}, 20), {255}} {
		wantReadSegment(t, s, summed(b), impl.Segment{}, impl.ErrCorrupt)
	}
	rest := slices.Concat([]byte{6}, summed([]byte{1, 0}), []byte{0, 6}, summed([]byte{1, 0}), []byte{0})
	wantReadSegment(t, s, summed(append([]byte{0}, rest...)), impl.Segment{Fields: []impl.SegField{{Name: "n", Dict: automatonOf(nil)}, {Name: "t", Dict: automatonOf(nil)}, {Name: "w", Dict: automatonOf(nil)}}}, impl.OK)
	wantReadSegment(t, s, summed(append([]byte{128, 0}, rest...)), impl.Segment{}, impl.ErrCorrupt)
}

// Bytes that BuildSegment would refuse, whichever code it has.
func TestReadSegmentOfRefusedDocs(t *testing.T) {
	s := small()
	for _, docs := range [][]impl.Doc{{{}}, {docWith("x"), docWith("x")}, {docWith("a b")}, {docWith("a", textsIn("none", "x"))}, numbered(257), wordsIn(4097), {docWith("a", textsIn("n", "1"))}} {
		g := impl.Segment{Docs: docs, Fields: []impl.SegField{{Name: "n", Dict: automatonOf(nil)}, segmentTerms(s, "t", docs), segmentTerms(s, "w", docs)}}
		wantReadSegment(t, s, summed(segmentBody(s, g)), impl.Segment{}, impl.ErrCorrupt)
	}
	// The bytes of one schema are not those of another one.
	g, b := wantSegmentBack(t, s, []impl.Doc{docWith("a", textsIn("t", "Cats"))})
	stems := copyOf(s)
	stems.Fields[1].Analyzer.Stem = true
	fold := copyOf(s)
	fold.Fields[1].Analyzer.Fold = true
	for _, other := range []impl.Schema{fold, schemaOf(s.Fields[:2]...), schemaOf(s.Fields[1:2]...), schemaOf(append(slices.Clone(s.Fields), wordField("x"))...)} {
		wantReadSegment(t, other, b, impl.Segment{}, impl.ErrCorrupt)
	}
	wantReadSegment(t, stems, b, g, impl.OK)
	wantReadSegment(t, schemaOf(s.Fields[1:]...), b, impl.Segment{Docs: g.Docs, Fields: g.Fields[1:]}, impl.OK)
}

// sizedSegment tells documents whose segment of small has just so many bytes, for
// a number about MaxBytes. Blanks have no terms, so that each is one byte.
func sizedSegment(t *testing.T, size int) (impl.Segment, []byte) {
	t.Helper()
	docs := numbered(256)
	for i := range docs {
		docs[i].Values = []impl.Value{numbersIn("n", slices.Repeat([]int{greatestNumber}, 16)...), textsIn("t", strings.Repeat(" ", 4000))}
	}
	docs[9].Values[1].Texts[0] = strings.Repeat(" ", 2000) + "x" + strings.Repeat(" ", 1999)
	g, _ := segmentOf(small(), docs)
	for i := 0; ; i++ {
		left := len(segmentBody(small(), g)) + 4 - size
		if left <= 0 {
			break
		}
		text := &g.Docs[100+i].Values[1].Texts[0]
		*text = (*text)[min(left, 3000):]
	}
	b := summed(segmentBody(small(), g))
	if len(b) != size {
		t.Fatalf("%d bytes, want %d", len(b), size)
	}
	return g, b
}

func TestSegmentSizes(t *testing.T) {
	s := small()
	for _, more := range []int{-1, 0} {
		g, b := sizedSegment(t, impl.MaxBytes+more)
		wantSegment(t, s, g.Docs, g, impl.OK)
		wantSegmentBytes(t, s, g, b, impl.OK)
		wantReadSegment(t, s, b, g, impl.OK)
		c := slices.Clone(b)
		c[len(c)/2]++
		wantReadSegment(t, s, c, impl.Segment{}, impl.ErrCorrupt)
		// A segment that is none counts ahead of its size.
		g.Fields[1].Lengths[5]++
		wantSegmentBytes(t, s, g, nil, impl.ErrBad)
	}
	for _, more := range []int{1, 2, 1000} {
		g, b := sizedSegment(t, impl.MaxBytes+more)
		wantSegment(t, s, g.Docs, g, impl.OK)
		wantPostings(t, s, g, "t", "x", []impl.Posting{{Doc: 9, Pos: []int{0}}}, impl.OK)
		wantSegmentBytes(t, s, g, nil, impl.ErrLong)
		wantReadSegment(t, s, b, impl.Segment{}, impl.ErrLong)
		wantReadSegment(t, impl.Schema{}, b, impl.Segment{}, impl.ErrLong)
		g.Fields[1].Lengths[5]++
		wantSegmentBytes(t, s, g, nil, impl.ErrBad)
	}
}

func TestReadSegmentFaultsInOrder(t *testing.T) {
	_, right := wantSegmentBack(t, small(), nil)
	for _, s := range []impl.Schema{small(), {}, manyFields(17)} {
		for _, b := range [][]byte{right, nil, {1}, make([]byte, impl.MaxBytes), make([]byte, impl.MaxBytes+1), make([]byte, 3*impl.MaxBytes)} {
			g, code := segmentIn(s, b)
			wantReadSegment(t, s, b, g, code)
			if want := len(b) > impl.MaxBytes; want != (code == impl.ErrLong) {
				t.Fatalf("the second telling: code %d", code)
			}
		}
	}
}

func TestReadSegmentOfRandomBytes(t *testing.T) {
	source := rand.New(rand.NewSource(72))
	for range 4000 {
		b := make([]byte, source.Intn(60))
		for i := range b {
			b[i] = byte(source.Intn(1 << source.Intn(9)))
		}
		g, code := segmentIn(small(), summed(b))
		wantReadSegment(t, small(), summed(b), g, code)
		wantReadSegment(t, small(), append(b, 0), impl.Segment{}, impl.ErrCorrupt)
	}
}

// Every run of at most three small bytes, with its sum.
func TestReadSegmentOfShortBytes(t *testing.T) {
	s := schemaOf(numberField("n"))
	var runs func(left int, ahead []byte)
	runs = func(left int, ahead []byte) {
		g, code := segmentIn(s, summed(ahead))
		wantReadSegment(t, s, summed(ahead), g, code)
		if left == 0 {
			return
		}
		for next := range 6 {
			runs(left-1, append(slices.Clone(ahead), byte(next)))
		}
	}
	runs(4, nil)
}
