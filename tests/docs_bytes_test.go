package tests

import (
	"bytes"
	"math"
	"math/rand"
	"slices"
	"strings"
	"testing"

	"loop.example/g00018/impl"
)

func TestDocBytesWritten(t *testing.T) {
	for _, c := range []struct {
		d    impl.Doc
		want []byte
	}{
		{impl.Doc{}, []byte{0, 0}},
		{docWith("ab"), []byte{2, 'a', 'b', 0}},
		{docWith("", impl.Value{}), []byte{0, 1, 0, 0, 0}},
		{docWith("", impl.Value{}, impl.Value{}), []byte{0, 2, 0, 0, 0, 0, 0, 0}},
		{docWith("a", textsIn("tag", "x", "", "yz")), []byte{1, 'a', 1, 3, 't', 'a', 'g', 3, 1, 'x', 0, 2, 'y', 'z', 0}},
		{docWith("a", numbersIn("n", 0, 1, -1, 2, -2, 63, -63, 64, -64, 65, -65)), []byte{1, 'a', 1, 1, 'n', 0, 11, 0, 2, 1, 4, 3, 126, 125, 128, 1, 127, 130, 1, 129, 1}},
		{docWith("a", numbersIn("n", greatestNumber, -greatestNumber)), []byte{1, 'a', 1, 1, 'n', 0, 2, 128, 192, 168, 202, 154, 58, 255, 191, 168, 202, 154, 58}},
		{docWith("z", impl.Value{Field: "b", Texts: []string{"\xff"}, Numbers: []int{5}}, textsIn("a", "\u00e9")), []byte{1, 'z', 2, 1, 'b', 1, 1, 255, 1, 10, 1, 'a', 1, 2, 195, 169, 0}},
	} {
		wantDocBytes(t, c.d, c.want, impl.OK)
		wantReadDoc(t, c.want, c.d, impl.OK)
		wantDocBack(t, c.d)
	}
	wantDocBack(t, book())
}

// sampleDocs are valid and others; no schema is asked for their bytes.
func sampleDocs() []impl.Doc {
	return []impl.Doc{
		{}, book(), docWith("a"), docWith("a b\x00\xff"), docWith("", impl.Value{}), docWith("", textsIn("b", ""), textsIn("a", "", "x")), docWith("a", textsIn("f", "x"), textsIn("f", "x")),
		docWith("x", impl.Value{Field: "\xff", Texts: []string{"\xed\xa0\x80", "a"}, Numbers: []int{-1, 1, -64, 64, greatestNumber, -greatestNumber}}),
		docWith("long", textsIn("f", strings.Repeat("a", 127), strings.Repeat("b", 128), strings.Repeat("c", 300)), numbersIn("n", make([]int, 130)...)),
	}
}

func TestDocsComeBack(t *testing.T) {
	for _, d := range sampleDocs() {
		wantDocBack(t, d)
	}
	for n := -5000; n <= 5000; n++ {
		wantDocBack(t, docWith("", numbersIn("", n)))
	}
	for bit := range 40 {
		for more := -1; more <= 1; more++ {
			n := min(1<<bit+more, greatestNumber)
			wantDocBack(t, docWith("i", numbersIn("n", n, -n, 7)))
		}
	}
	for sign := range 256 {
		one := string([]byte{byte(sign)})
		wantDocBack(t, docWith(one, textsIn(one, one, one+one), textsIn(one+"a")))
	}
}

func TestDocBytesNumbers(t *testing.T) {
	for _, n := range []int{greatestNumber, -greatestNumber, greatestNumber + 1, -greatestNumber - 1, greatestNumber - 1, 1 - greatestNumber, impl.MaxNum, -impl.MaxNum, 1 << 61, math.MaxInt, math.MinInt, math.MinInt + 1, math.MinInt / 2, math.MaxInt/2 + 1} {
		want := impl.OK
		if n > greatestNumber || n < -greatestNumber {
			want = impl.ErrRange
		}
		for _, d := range []impl.Doc{docWith("i", numbersIn("n", n)), docWith("i", numbersIn("n", 1, n)), docWith("i", numbersIn("n", n, 1)), docWith("i", numbersIn("n", 1), numbersIn("m", 1, n, 1)), docWith("", impl.Value{Texts: []string{"x"}, Numbers: []int{n}})} {
			b, code := docBytesOf(d)
			if code != want {
				t.Fatalf("the second telling differs on %d", n)
			}
			wantDocBytes(t, d, b, want)
			wantDocBack(t, d)
		}
	}
}

// A text of just MaxText bytes is taken, as an id, a field and a text; one more is not.
func TestDocBytesTextSizes(t *testing.T) {
	for more := -1; more <= 1; more++ {
		text := strings.Repeat("t", impl.MaxText+more)
		for _, d := range []impl.Doc{docWith(text), docWith("", textsIn(text)), docWith("i", textsIn("f", text)), docWith("i", textsIn("f", "", text, "x")), docWith("i", numbersIn("a", 1), numbersIn(text, 1)), docWith("i", textsIn("a", "x"), textsIn("b", "x", text))} {
			wantDocBack(t, d)
			if _, code := impl.DocBytes(d); (code == impl.ErrRange) != (more > 0) {
				t.Errorf("a text of %d bytes: code %d", len(text), code)
			}
		}
	}
	wantDocBytes(t, docWith(strings.Repeat("t", 1<<22)), nil, impl.ErrRange)
}

func TestDocBytesListSizes(t *testing.T) {
	for more := -1; more <= 1; more++ {
		n := impl.MaxList + more
		for _, d := range []impl.Doc{
			docWith("i", make([]impl.Value, n)...), docWith("i", slices.Repeat([]impl.Value{textsIn("f", "x"), numbersIn("g", 1)}, n)[:n]...),
			docWith("i", textsIn("f", make([]string, n)...)), docWith("i", numbersIn("f", make([]int, n)...)), docWith("i", numbersIn("f", slices.Repeat([]int{-greatestNumber}, n)...)),
			docWith("i", textsIn("f", "x"), textsIn("g", slices.Repeat([]string{"xyz"}, n)...)), docWith("i", numbersIn("f", 1), numbersIn("g", make([]int, n)...), numbersIn("h", 1)),
			docWith("i", impl.Value{Field: "f", Texts: make([]string, n), Numbers: make([]int, n)}),
		} {
			wantDocBack(t, d)
			if _, code := impl.DocBytes(d); (code == impl.ErrRange) != (more > 0) {
				t.Errorf("a list of %d elements: code %d", n, code)
			}
		}
	}
}

func TestDocBytesTwoFaults(t *testing.T) {
	long := strings.Repeat("t", impl.MaxText+1)
	wantDocBytes(t, docWith(long, numbersIn(long, greatestNumber+1)), nil, impl.ErrRange)
	wantDocBytes(t, docWith("i", impl.Value{Field: long, Texts: slices.Repeat([]string{long}, impl.MaxList+1), Numbers: []int{math.MinInt}}), nil, impl.ErrRange)
	wantDocBytes(t, docWith("i", make([]impl.Value, impl.MaxList+1)...), nil, impl.ErrRange)
}

// wantSameRead holds bytes, right or wrong, against the document's words.
func wantSameRead(t *testing.T, b []byte) {
	t.Helper()
	want, wantCode := docOf(b)
	wantReadDoc(t, b, want, wantCode)
}

// Bytes that are cut short are never right, nor are those with more at their end.
func TestReadDocCutShort(t *testing.T) {
	for _, d := range sampleDocs() {
		b, _ := docBytesOf(d)
		for size := range b {
			wantNoDoc(t, b[:size])
		}
		for sign := range 256 {
			wantNoDoc(t, append(slices.Clone(b), byte(sign)))
			wantNoDoc(t, append(slices.Clone(b), 0, byte(sign)))
		}
		wantNoDoc(t, append(slices.Clone(b), b...))
	}
}

// One byte is changed, left out or put in: it is another document, or none.
func TestReadDocOfChangedBytes(t *testing.T) {
	for _, d := range sampleDocs()[:8] {
		b, _ := docBytesOf(d)
		for place := range b {
			wantSameRead(t, b[place+1:])
			wantSameRead(t, slices.Delete(slices.Clone(b), place, place+1))
			for sign := range 256 {
				wantSameRead(t, slices.Insert(slices.Clone(b), place, byte(sign)))
				changed := slices.Clone(b)
				changed[place] = byte(sign)
				wantSameRead(t, changed)
			}
		}
	}
}

func TestReadDocOfAllShortBytes(t *testing.T) {
	level := [][]byte{{}}
	for size := range 7 {
		var next [][]byte
		for _, b := range level {
			wantSameRead(t, b)
			for _, sign := range []byte{0, 1, 2, 3, 97, 128} {
				next = append(next, append(slices.Clone(b), sign))
			}
		}
		level = next
		if size == 1 {
			for one := range 65536 {
				wantSameRead(t, []byte{byte(one / 256), byte(one % 256)})
			}
		}
	}
}

// Numbers that PutInt writes otherwise stand for each length, count and number.
func TestReadDocOfLongNumbers(t *testing.T) {
	wantReadDoc(t, []byte{1, 'a', 1, 1, 'f', 1, 1, 'x', 1, 2}, docWith("a", impl.Value{Field: "f", Texts: []string{"x"}, Numbers: []int{1}}), impl.OK)
	b := []byte{1, 'a', 1, 1, 'f', 1, 1, 'x', 1, 2}
	for _, place := range []int{0, 2, 3, 5, 6, 8, 9} {
		for _, behind := range [][]byte{{0}, {128, 0}, {128}, {128, 128, 128, 128, 128, 128, 128, 128, 0}, {255, 255, 255, 255, 255, 255, 255, 255, 63}, {255, 255, 255, 255, 255, 255, 255, 255, 255, 1}, {128, 128, 128, 128, 128, 128, 128, 128, 128, 128, 1}} {
			long := slices.Insert(slices.Clone(b), place+1, behind...)
			long[place] += 128
			wantNoDoc(t, long)
			wantSameRead(t, long)
		}
	}
}

// The bytes would go on as the lengths say, but they are greater than they may be.
func TestReadDocOfGreatLengths(t *testing.T) {
	long := strings.Repeat("t", impl.MaxText+1)
	head := textBehind(nil, "i")
	for _, b := range [][]byte{
		putBehind(textBehind(nil, long), 0),
		append(textBehind(putBehind(textBehind(nil, "i"), 1), long), 0, 0),
		append(textBehind([]byte{1, 'i', 1, 1, 'f', 1}, long), 0),
		append(putBehind(slices.Clone(head), impl.MaxList+1), make([]byte, 3*(impl.MaxList+1))...),
		append(putBehind([]byte{1, 'i', 1, 1, 'f'}, impl.MaxList+1), make([]byte, impl.MaxList+2)...),
		append(putBehind([]byte{1, 'i', 1, 1, 'f', 0}, impl.MaxList+1), make([]byte, impl.MaxList+1)...),
	} {
		wantNoDoc(t, b)
		wantSameRead(t, b)
	}
	for _, great := range []int{1 << 20, 1 << 31, 1 << 32, 1 << 61, impl.MaxNum} {
		for _, start := range [][]byte{nil, {0}, {0, 1}, {0, 1, 0}, {0, 1, 0, 1}, {0, 1, 0, 0}} {
			b := append(putBehind(slices.Clone(start), great), make([]byte, 100)...)
			wantNoDoc(t, b)
		}
	}
}

func TestReadDocNumbers(t *testing.T) {
	for _, c := range []struct {
		told, n, code int
	}{
		{0, 0, impl.OK}, {1, -1, impl.OK}, {2, 1, impl.OK}, {3, -2, impl.OK},
		{2*greatestNumber - 2, greatestNumber - 1, impl.OK}, {2*greatestNumber - 1, -greatestNumber, impl.OK}, {2 * greatestNumber, greatestNumber, impl.OK},
		{2*greatestNumber + 1, 0, impl.ErrCorrupt}, {2*greatestNumber + 2, 0, impl.ErrCorrupt}, {1 << 61, 0, impl.ErrCorrupt}, {impl.MaxNum - 1, 0, impl.ErrCorrupt}, {impl.MaxNum, 0, impl.ErrCorrupt},
	} {
		b := putBehind([]byte{0, 1, 0, 0, 1}, c.told)
		want := impl.Doc{}
		if c.code == impl.OK {
			want = docWith("", numbersIn("", c.n))
		}
		wantReadDoc(t, b, want, c.code)
		wantSameRead(t, b)
	}
}

// sizedDoc tells a document whose bytes are of this size, which is near MaxBytes.
func sizedDoc(size int) impl.Doc {
	d := docWith("i", textsIn("f", slices.Repeat([]string{strings.Repeat("t", impl.MaxText)}, 15)...), textsIn("g", ""))
	b, _ := docBytesOf(d)
	d.Values[1].Texts[0] = strings.Repeat("x", size-len(b)-2)
	return d
}

func TestReadDocSizes(t *testing.T) {
	for more := -1; more <= 2; more++ {
		d := sizedDoc(impl.MaxBytes + more)
		b, code := impl.DocBytes(d)
		right, _ := docBytesOf(d)
		if len(b) != impl.MaxBytes+more || code != impl.OK || !bytes.Equal(b, right) {
			t.Fatalf("DocBytes of a document of %d bytes: %d bytes, code %d", impl.MaxBytes+more, len(b), code)
		}
		if more <= 0 {
			wantReadDoc(t, b, d, impl.OK)
			wantNoDoc(t, b[:len(b)-1])
		} else {
			wantReadDoc(t, b, impl.Doc{}, impl.ErrLong)
		}
	}
	wantNoDoc(t, make([]byte, impl.MaxBytes))
	wantReadDoc(t, make([]byte, impl.MaxBytes+1), impl.Doc{}, impl.ErrLong)
	wantReadDoc(t, bytes.Repeat([]byte{255}, impl.MaxBytes+1), impl.Doc{}, impl.ErrLong)
	wantNoDoc(t, bytes.Repeat([]byte{255}, impl.MaxBytes))
	wantNoDoc(t, nil)
}

func TestReadDocOfRandomBytes(t *testing.T) {
	source := rand.New(rand.NewSource(7))
	for range 20000 {
		b := make([]byte, source.Intn(30))
		for i := range b {
			b[i] = byte(source.Intn([]int{3, 5, 20, 256}[source.Intn(4)]))
		}
		wantSameRead(t, b)
	}
}
