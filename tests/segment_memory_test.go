package tests

import (
	"cmp"
	"reflect"
	"slices"
	"testing"
	"unsafe"

	"loop.example/g00018/impl"
)

// A stretch is memory that a list has, also behind its end, or a text.
type stretch struct {
	from, to uintptr
	text     bool
	answer   bool
}

// stretchesOf tells the memory of all lists and texts in v.
func stretchesOf(v reflect.Value, answer bool) []stretch {
	switch v.Kind() {
	case reflect.String:
		from := uintptr(unsafe.Pointer(unsafe.StringData(v.String())))
		return []stretch{{from, from + uintptr(v.Len()), true, answer}}
	case reflect.Slice:
		from := v.Pointer()
		list := []stretch{{from, from + uintptr(v.Cap())*v.Type().Elem().Size(), false, answer}}
		for i := range v.Len() {
			list = append(list, stretchesOf(v.Index(i), answer)...)
		}
		return list
	case reflect.Struct:
		var list []stretch
		for i := range v.NumField() {
			list = append(list, stretchesOf(v.Field(i), answer)...)
		}
		return list
	}
	return nil
}

// wantOwnMemory wants no two lists of an answer to share memory, and none, nor a
// text, to share any with an argument.
func wantOwnMemory(t *testing.T, what string, answer any, arguments ...any) {
	t.Helper()
	list := stretchesOf(reflect.ValueOf(answer), true)
	for _, argument := range arguments {
		list = append(list, stretchesOf(reflect.ValueOf(argument), false)...)
	}
	list = slices.DeleteFunc(list, func(s stretch) bool { return s.from == s.to })
	slices.SortFunc(list, func(a, b stretch) int { return cmp.Or(cmp.Compare(a.from, b.from), cmp.Compare(a.to, b.to)) })
	for i, a := range list {
		for _, b := range list[i+1:] {
			if b.from >= a.to {
				break
			}
			if a.answer != b.answer || a.answer && !(a.text && b.text) {
				t.Errorf("%s: memory is shared", what)
				return
			}
		}
	}
}

func roomyDocs(docs []impl.Doc) []impl.Doc {
	docs = withRoom(docs, docWith("behind"))
	for i := range docs {
		docs[i] = roomyDoc(docs[i])
	}
	return docs
}

// roomyCopy tells a copy of v of which each list has elements behind its end.
func roomyCopy[T any](v T) T {
	return roomyValue(reflect.ValueOf(v)).Interface().(T)
}

func roomyValue(v reflect.Value) reflect.Value {
	switch v.Kind() {
	case reflect.Slice:
		c := reflect.MakeSlice(v.Type(), v.Len()+2, v.Len()+2)
		for i := range v.Len() {
			c.Index(i).Set(roomyValue(v.Index(i)))
		}
		return c.Slice(0, v.Len())
	case reflect.Struct:
		c := reflect.New(v.Type()).Elem()
		for i := range v.NumField() {
			c.Field(i).Set(roomyValue(v.Field(i)))
		}
		return c
	}
	return v
}

// wholeCopy tells a copy of v whose lists hold what stands behind their ends too.
func wholeCopy[T any](v T) T {
	return wholeValue(reflect.ValueOf(v)).Interface().(T)
}

func wholeValue(v reflect.Value) reflect.Value {
	switch v.Kind() {
	case reflect.Slice:
		c := reflect.MakeSlice(v.Type(), v.Cap(), v.Cap())
		for i := range v.Cap() {
			c.Index(i).Set(wholeValue(v.Slice(0, v.Cap()).Index(i)))
		}
		return c
	case reflect.Struct:
		c := reflect.New(v.Type()).Elem()
		for i := range v.NumField() {
			c.Field(i).Set(wholeValue(v.Field(i)))
		}
		return c
	}
	return v
}

func TestSegmentCallsLeaveTheirArguments(t *testing.T) {
	right, _ := segmentOf(shelf(), shelfDocs())
	wrong := copyOf(right)
	wrong.Fields[0].Lists[0][0].Pos[0]++
	unsorted := copyOf(right)
	slices.Reverse(unsorted.Fields[5].Numbers[1])
	for _, s := range []impl.Schema{shelf(), {}, manyFields(17)} {
		for _, g := range []impl.Segment{right, wrong, unsorted, {}, {Docs: sampleDocs()}} {
			s, g := roomySchema(s), roomyCopy(g)
			schemaBefore, before := wholeSchema(s), wholeCopy(g)
			impl.BuildSegment(s, g.Docs)
			impl.Postings(s, g, "body", "cat")
			impl.Postings(s, g, "year", "cat")
			impl.SegmentBytes(s, g)
			if !reflect.DeepEqual(wholeSchema(s), schemaBefore) {
				t.Errorf("a call wrote into %s", shortSchema(s))
			}
			if !reflect.DeepEqual(wholeCopy(g), before) {
				t.Errorf("a call wrote into %s", shortSegment(g))
			}
		}
	}
}

func TestReadSegmentLeavesItsBytes(t *testing.T) {
	for _, sample := range sampleSegments() {
		_, b := wantSegmentBack(t, sample.s, sample.docs)
		for size := range len(b) + 1 {
			whole := append(slices.Clone(b), 1, 2, 3)
			impl.ReadSegment(sample.s, whole[:size])
			impl.ReadSegment(sample.s, summed(whole[:size]))
			if !slices.Equal(whole, append(slices.Clone(b), 1, 2, 3)) {
				t.Errorf("ReadSegment wrote into %s", shortBytes(b))
			}
		}
	}
}

func TestSegmentAnswersNewMemory(t *testing.T) {
	greater := numbered(100)
	for i := range greater {
		greater[i].Values = []impl.Value{textsIn("body", "a boat and a cat and one more", "a"), numbersIn("year", 5, i, -i)}
	}
	for _, docs := range [][]impl.Doc{nil, {book()}, shelfDocs(), greater} {
		s, docs := roomySchema(shelf()), roomyDocs(docs)
		g, code := impl.BuildSegment(s, docs)
		if code != impl.OK {
			t.Fatalf("code %d", code)
		}
		wantOwnMemory(t, "BuildSegment", g, s, docs)
		for _, term := range []string{"a", "boat", "none"} {
			list, _ := impl.Postings(s, g, "body", term)
			wantOwnMemory(t, "Postings", list, s, g)
		}
		b, _ := impl.SegmentBytes(s, g)
		wantOwnMemory(t, "SegmentBytes", b, s, g)
		read, code := impl.ReadSegment(s, b)
		if code != impl.OK {
			t.Fatalf("code %d", code)
		}
		wantOwnMemory(t, "ReadSegment", read, s, b, g)
		again, _ := impl.BuildSegment(s, docs)
		wantOwnMemory(t, "BuildSegment twice", again, g, read)
	}
}

// What is appended to one list, or written into it, is to be seen in no other.
func TestSegmentListsApart(t *testing.T) {
	want, _ := segmentOf(shelf(), shelfDocs())
	b, _ := segmentBytesOf(shelf(), want)
	built, _ := impl.BuildSegment(shelf(), shelfDocs())
	read, _ := impl.ReadSegment(shelf(), b)
	for _, g := range []impl.Segment{built, read} {
		for i := range g.Fields {
			for j := range g.Fields[i].Lists {
				_ = append(g.Fields[i].Lists[j], impl.Posting{Doc: -1})
				for k := range g.Fields[i].Lists[j] {
					_ = append(g.Fields[i].Lists[j][k].Pos, -1)
				}
			}
			for j := range g.Fields[i].Numbers {
				_ = append(g.Fields[i].Numbers[j], -1)
			}
			_ = append(g.Fields[i].Lengths, -1)
		}
		if !sameSegment(g, want) {
			t.Fatalf("what was appended stands in another list: %s", firstPart(g, want))
		}
		changed := copyOf(g)
		for i := range g.Fields {
			for j := range g.Fields[i].Lists {
				overwrite(g.Fields[i].Lists[j][0].Pos, -2)
				overwrite(changed.Fields[i].Lists[j][0].Pos, -2)
				if !sameSegment(g, changed) {
					t.Fatalf("what was written stands in another list: %s", firstPart(g, changed))
				}
			}
			for j := range g.Fields[i].Numbers {
				overwrite(g.Fields[i].Numbers[j], -2)
				overwrite(changed.Fields[i].Numbers[j], -2)
				if !sameSegment(g, changed) {
					t.Fatalf("what was written stands in another list: %s", firstPart(g, changed))
				}
			}
		}
	}
	list, _ := impl.Postings(shelf(), want, "body", "boat")
	_ = append(list[0].Pos, -1)
	if list[1].Pos[0] != 1 {
		t.Errorf("what was appended stands in another posting: %v", list)
	}
}

// Nothing is kept from call to call: what was written into an answer is not in the next.
func TestSegmentCallsKeepNothing(t *testing.T) {
	want, _ := segmentOf(shelf(), shelfDocs())
	for range 3 {
		g, _ := impl.BuildSegment(shelf(), shelfDocs())
		if !sameSegment(g, want) {
			t.Fatalf("another answer: %s", firstPart(g, want))
		}
		for i := range g.Fields {
			overwrite(g.Fields[i].Lengths, -3)
			overwrite(g.Fields[i].Lists, nil)
			overwrite(g.Fields[i].Dict.States, impl.DictState{})
		}
		overwrite(g.Docs, impl.Doc{})
	}
}

// Documents, fields and lists without number, as far as they are refused, cost little.
func TestSegmentCallsEndWithGreatArguments(t *testing.T) {
	g, _ := segmentOf(small(), numbered(2))
	g.Fields[1].Lists = make([][]impl.Posting, 1<<20)
	wantNoSegment(t, small(), g, "many lists")
	g, _ = segmentOf(small(), numbered(2))
	g.Fields = make([]impl.SegField, 1<<18)
	wantNoSegment(t, small(), g, "many fields")
	g, _ = segmentOf(small(), numbered(2))
	g.Fields[0].Numbers = make([][]int, 1<<20)
	wantNoSegment(t, small(), g, "many numbers")
	body := putBehind(putBehind(nil, 1), impl.MaxBytes/2)
	wantReadSegment(t, small(), summed(append(body, make([]byte, impl.MaxBytes/2)...)), impl.Segment{}, impl.ErrCorrupt)
}
