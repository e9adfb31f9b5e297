package tests

import (
	"bytes"
	"math"
	"math/rand"
	"slices"
	"strings"
	"testing"

	"loop.example/g00018/impl"
)

func TestStoreConstants(t *testing.T) {
	if impl.MaxStoreOps != 200 {
		t.Errorf("the limit is %d", impl.MaxStoreOps)
	}
	kinds := [8]int{impl.RecPut, impl.RecDelete, impl.SPut, impl.SDelete, impl.SSync, impl.SFind, impl.SCrash, impl.SRecover}
	if kinds != [8]int{1, 2, 1, 2, 3, 4, 5, 6} {
		t.Errorf("the kinds are %v", kinds)
	}
}

func TestRecordBytesWritten(t *testing.T) {
	for _, c := range []struct {
		r    impl.Record
		part []byte
	}{
		{deleteRecord(1, "x"), []byte{2, 1, 'x'}},
		{deleteRecord(127, "ab"), []byte{2, 127, 'a', 'b'}},
		{deleteRecord(128, "ab"), []byte{2, 128, 1, 'a', 'b'}},
		{deleteRecord(300, "~"), []byte{2, 172, 2, '~'}},
		{deleteRecord(impl.MaxNum, "!"), []byte{2, 255, 255, 255, 255, 255, 255, 255, 255, 63, '!'}},
		{putRecord(2, docWith("y")), []byte{1, 2, 1, 'y', 0}},
		{putRecord(1, docWith("y", numbersIn("n", -1))), []byte{1, 1, 1, 'y', 1, 1, 'n', 0, 1, 1}},
		{putRecord(200, docWith("ab", impl.Value{Field: "Q", Texts: []string{"\xff", ""}, Numbers: []int{64}}, impl.Value{})), []byte{1, 200, 1, 2, 'a', 'b', 2, 1, 'Q', 2, 1, 255, 0, 1, 128, 1, 0, 0, 0}},
	} {
		b := append([]byte{byte(len(c.part))}, c.part...)
		sum := impl.Sum32(c.part)
		b = append(b, byte(sum>>24), byte(sum>>16), byte(sum>>8), byte(sum))
		wantRecord(t, c.r, b, impl.OK)
		wantSameRecord(t, c.r)
	}
	// These sums are told by hand, the highest byte first.
	wantRecord(t, deleteRecord(1, "x"), []byte{3, 2, 1, 'x', 0x0a, 0x7c, 0x87, 0x9c}, impl.OK)
	wantRecord(t, putRecord(1, docWith("a")), []byte{5, 1, 1, 1, 'a', 0, 0x42, 0x62, 0x41, 0x5b}, impl.OK)
}

// A part of 127 bytes has one byte ahead, one of 128 two.
func TestRecordBytesLengths(t *testing.T) {
	for size := 1; size <= 400; size++ {
		r := putRecord(1, docWith("a", textsIn("t", strings.Repeat("x", size))))
		b := mustRecord(t, r)
		part := partOf(r)
		if len(b) != len(part)+5+btoi(len(part) > 127) {
			t.Errorf("a part of %d bytes: %d bytes", len(part), len(b))
		}
		wantSameRecord(t, r)
		wantLog(t, b, []impl.Record{r}, len(b), impl.OK)
	}
}

func TestRecordSeqs(t *testing.T) {
	for _, seq := range []int{1, 2, 127, 128, 16383, 16384, 1 << 31, 1 << 32, 1<<61 - 1, 1 << 61, impl.MaxNum - 1, impl.MaxNum} {
		for _, r := range []impl.Record{putRecord(seq, docWith("a")), deleteRecord(seq, "a")} {
			wantSameRecord(t, r)
			b := mustRecord(t, r)
			if got, _ := recordAt(b, 0); !sameRecord(got, r) {
				t.Errorf("%s comes back as %s", shortRecord(r), shortRecord(got))
			}
			if seq == 1 {
				wantLog(t, b, []impl.Record{r}, len(b), impl.OK)
			} else {
				wantLog(t, b, nil, 0, impl.OK)
			}
		}
	}
	for _, seq := range []int{math.MinInt, -impl.MaxNum, -128, -1, 0, impl.MaxNum + 1, impl.MaxNum + 2, math.MaxInt - 1, math.MaxInt} {
		wantRecord(t, putRecord(seq, docWith("a")), nil, impl.ErrBad)
		wantRecord(t, deleteRecord(seq, "a"), nil, impl.ErrBad)
		wantSameRecord(t, putRecord(seq, docWith("a")))
	}
}

func TestRecordKinds(t *testing.T) {
	for kind := -300; kind <= 300; kind++ {
		for _, r := range []impl.Record{{Kind: kind, Seq: 1, Id: "a"}, {Kind: kind, Seq: 1, Doc: docWith("a")}, {Kind: kind, Seq: 1}, {Kind: kind, Seq: 1, Id: "a", Doc: docWith("a")}} {
			wantSameRecord(t, r)
			if _, code := impl.RecordBytes(r); (code == impl.OK) != (kind == 1 && r.Id == "" && r.Doc.Id == "a" || kind == 2 && r.Id == "a" && r.Doc.Id == "") {
				t.Errorf("%s: code %d", shortRecord(r), code)
			}
		}
	}
	for _, kind := range []int{math.MinInt, 1<<8 + 1, 1<<8 + 2, 1<<32 + 1, 1<<32 + 2, math.MaxInt} {
		wantRecord(t, impl.Record{Kind: kind, Seq: 1, Id: "a"}, nil, impl.ErrBad)
		wantRecord(t, impl.Record{Kind: kind, Seq: 1, Doc: docWith("a")}, nil, impl.ErrBad)
	}
	wantRecord(t, impl.Record{}, nil, impl.ErrBad)
}

func TestRecordIds(t *testing.T) {
	for sign := range 256 {
		one := string([]byte{byte(sign)})
		for _, id := range []string{one, one + "a", "a" + one, "a" + one + "a"} {
			want := impl.ErrBad
			if sign >= 33 && sign <= 126 {
				want = impl.OK
			}
			for _, r := range []impl.Record{deleteRecord(1, id), putRecord(1, docWith(id)), putRecord(1, docWith(id, textsIn("t", "x")))} {
				b, code := recordBytesOf(r)
				if code != want {
					t.Fatalf("the second telling differs on %s", shortRecord(r))
				}
				wantRecord(t, r, b, want)
				// The bytes of a record with a wrong id have a right sum, too.
				whole := framed(partOf(r))
				if want == impl.OK {
					wantLog(t, whole, []impl.Record{r}, len(whole), impl.OK)
				} else {
					wantLog(t, whole, nil, 0, impl.OK)
				}
			}
		}
	}
	for size := range 40 {
		for _, id := range []string{strings.Repeat("a", size), strings.Repeat("~", size)} {
			for _, r := range []impl.Record{deleteRecord(1, id), putRecord(1, docWith(id))} {
				wantSameRecord(t, r)
				wantSameLog(t, framed(partOf(r)))
				if _, code := impl.RecordBytes(r); (code == impl.OK) != (size >= 1 && size <= 30) {
					t.Errorf("an id of %d bytes: code %d", size, code)
				}
			}
		}
	}
	wantRecord(t, deleteRecord(1, strings.Repeat("a", 1<<22)), nil, impl.ErrBad)
	wantRecord(t, putRecord(1, docWith(strings.Repeat("a", 1<<22))), nil, impl.ErrBad)
	wantRecord(t, putRecord(1, docWith(strings.Repeat("a", impl.MaxText))), nil, impl.ErrBad)
}

// What the other kind has must be zero; an empty list is.
func TestRecordsOfBothKinds(t *testing.T) {
	wantRecord(t, impl.Record{Kind: impl.RecPut, Seq: 1, Id: "a", Doc: docWith("a")}, nil, impl.ErrBad)
	wantRecord(t, impl.Record{Kind: impl.RecPut, Seq: 1, Id: " ", Doc: docWith("a")}, nil, impl.ErrBad)
	wantRecord(t, impl.Record{Kind: impl.RecPut, Seq: 1, Id: "a"}, nil, impl.ErrBad)
	for _, d := range []impl.Doc{docWith("a"), docWith(" "), docWith("", impl.Value{}), docWith("", textsIn("f", "x")), docWith("", numbersIn("", 0)), docWith("a", numbersIn("n", 1)), docWith("", numbersIn("n", math.MaxInt))} {
		wantRecord(t, impl.Record{Kind: impl.RecDelete, Seq: 1, Id: "a", Doc: d}, nil, impl.ErrBad)
	}
	empty := impl.Record{Kind: impl.RecDelete, Seq: 1, Id: "a", Doc: impl.Doc{Values: []impl.Value{}}}
	wantRecord(t, empty, mustRecord(t, deleteRecord(1, "a")), impl.OK)
	empty = putRecord(1, impl.Doc{Id: "a", Values: []impl.Value{}})
	wantRecord(t, empty, mustRecord(t, putRecord(1, docWith("a"))), impl.OK)
	empty = putRecord(1, docWith("a", impl.Value{Field: "f", Texts: []string{}, Numbers: []int{}}))
	wantRecord(t, empty, mustRecord(t, putRecord(1, docWith("a", impl.Value{Field: "f"}))), impl.OK)
}

// No schema is asked: a document need only have bytes.
func TestRecordsOfAnyDocs(t *testing.T) {
	for _, d := range append(sampleDocs(), wrongDocs()...) {
		wantSameRecord(t, putRecord(1, d))
		d.Id = "id"
		wantSameRecord(t, putRecord(1, d))
		if _, code := docBytesOf(d); code == impl.OK {
			b := mustRecord(t, putRecord(1, d))
			wantLog(t, b, []impl.Record{putRecord(1, d)}, len(b), impl.OK)
		}
	}
}

// Documents at the edges of what has bytes.
func TestRecordsOfEdgeDocs(t *testing.T) {
	for more := -1; more <= 1; more++ {
		text := strings.Repeat("t", impl.MaxText+more)
		n := impl.MaxList + more
		number := greatestNumber + more
		for _, d := range []impl.Doc{
			docWith("i", textsIn(text)), docWith("i", textsIn("f", "x", text)), docWith("i", numbersIn("f", 1), numbersIn(text, 1)),
			docWith("i", make([]impl.Value, n)...), docWith("i", textsIn("f", make([]string, n)...)), docWith("i", numbersIn("f", make([]int, n)...)), docWith("i", numbersIn("f", 1), impl.Value{Texts: make([]string, n), Numbers: make([]int, n)}),
			docWith("i", numbersIn("n", number)), docWith("i", numbersIn("n", 1, -number)), docWith("i", textsIn("t", "x"), numbersIn("n", 1, number, 1)),
		} {
			wantSameRecord(t, putRecord(3, d))
			if _, code := impl.RecordBytes(putRecord(3, d)); (code == impl.OK) != (more <= 0) || more > 0 && code != impl.ErrBad {
				t.Errorf("%s: code %d", shortDoc(d), code)
			}
		}
	}
}

// sizedRecord tells a record whose bytes are of this size, which is near MaxBytes:
// the length ahead of its part has three bytes.
func sizedRecord(seq, size int) impl.Record {
	d := sizedDoc(size - 3 - 1 - len(putBehind(nil, seq)) - 4)
	return putRecord(seq, d)
}

func TestRecordSizes(t *testing.T) {
	for _, seq := range []int{1, 2, 127, 128, impl.MaxNum} {
		for more := -2; more <= 0; more++ {
			r := sizedRecord(seq, impl.MaxBytes+more)
			b := mustRecord(t, r)
			if len(b) != impl.MaxBytes+more {
				t.Fatalf("%d bytes, want %d", len(b), impl.MaxBytes+more)
			}
			wantSameRecord(t, r)
			if seq == 1 {
				wantLog(t, b, []impl.Record{r}, len(b), impl.OK)
				wantLog(t, b[:len(b)-1], nil, 0, impl.OK)
				wantLog(t, append(slices.Clone(b), make([]byte, -more)...), []impl.Record{r}, len(b), impl.OK)
			}
		}
		for _, more := range []int{1, 2, 3, 4, 5, 6, 7, 8, 9, 10, 20} {
			r := sizedRecord(seq, impl.MaxBytes+more)
			wantRecord(t, r, nil, impl.ErrLong)
			wantSameRecord(t, r)
		}
	}
	// Numbers have one byte each, or six: of the latter there is room for fewer.
	for _, n := range []int{0, greatestNumber} {
		values := slices.Repeat([]impl.Value{numbersIn("n", slices.Repeat([]int{n}, impl.MaxList)...)}, 50)
		wantSameRecord(t, putRecord(1, docWith("a", values...)))
		if _, code := impl.RecordBytes(putRecord(1, docWith("a", values...))); (code == impl.OK) != (n == 0) {
			t.Errorf("many numbers of %d: code %d", n, code)
		}
	}
}

// A record that isn't valid is ErrBad, however long it is.
func TestRecordOfTwoFaults(t *testing.T) {
	long := sizedRecord(1, impl.MaxBytes+1)
	for _, spoil := range []func(r *impl.Record){
		func(r *impl.Record) { r.Seq = 0 }, func(r *impl.Record) { r.Seq = impl.MaxNum + 1 }, func(r *impl.Record) { r.Kind = 3 }, func(r *impl.Record) { r.Kind = 0 }, func(r *impl.Record) { r.Kind = impl.RecDelete }, func(r *impl.Record) { r.Id = "a" }, func(r *impl.Record) { r.Kind, r.Id = impl.RecDelete, "a" },
		func(r *impl.Record) { r.Doc.Id = "" }, func(r *impl.Record) { r.Doc.Id = "a b" }, func(r *impl.Record) { r.Doc.Id = strings.Repeat("a", 31) }, func(r *impl.Record) { r.Doc.Values[1].Numbers = []int{greatestNumber + 1} }, func(r *impl.Record) { r.Doc.Values[1].Field = strings.Repeat("a", impl.MaxText+1) },
	} {
		r := copyOf(long)
		spoil(&r)
		wantRecord(t, r, nil, impl.ErrBad)
		wantSameRecord(t, r)
	}
	wantRecord(t, long, nil, impl.ErrLong)
}

// Documents that are told in little memory, but whose bytes no memory would hold.
func TestRecordOfGreatDocs(t *testing.T) {
	text := strings.Repeat("t", impl.MaxText)
	texts := slices.Repeat([]string{text}, impl.MaxList)
	numbers := slices.Repeat([]int{greatestNumber}, impl.MaxList)
	for _, v := range []impl.Value{{Field: text}, {Texts: texts}, {Numbers: numbers}, {Texts: make([]string, impl.MaxList)}, {Field: text, Texts: texts, Numbers: numbers}} {
		d := docWith("a", slices.Repeat([]impl.Value{v}, impl.MaxList)...)
		wantRecord(t, putRecord(1, d), nil, impl.ErrLong)
		wantRecord(t, putRecord(0, d), nil, impl.ErrBad)
		d.Values = append(d.Values, v)
		wantRecord(t, putRecord(1, d), nil, impl.ErrBad)
	}
	wantRecord(t, putRecord(1, docWith("a", make([]impl.Value, 1<<20)...)), nil, impl.ErrBad)
	wantRecord(t, impl.Record{Kind: impl.RecDelete, Seq: 1, Id: "a", Doc: docWith("", make([]impl.Value, 1<<20)...)}, nil, impl.ErrBad)
}

func TestRecordsOfRandomDocs(t *testing.T) {
	source := rand.New(rand.NewSource(71))
	for range 300 {
		r := putRecord(1+source.Intn(1<<source.Intn(40)), randomDoc(source, shelf()))
		if source.Intn(3) == 0 {
			r = deleteRecord(r.Seq, r.Doc.Id)
		}
		b, code := recordBytesOf(r)
		wantRecord(t, r, b, code)
		if again, _ := recordAt(b, 0); !bytes.Equal(mustRecord(t, again), b) {
			t.Errorf("%s comes back as %s", shortRecord(r), shortRecord(again))
		}
	}
}
