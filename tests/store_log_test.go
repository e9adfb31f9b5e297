package tests

import (
	"bytes"
	"math/rand"
	"slices"
	"strings"
	"testing"

	"loop.example/g00018/impl"
)

func TestLogsComeBack(t *testing.T) {
	list := sampleLog()
	b, places := logBytes(t, list)
	for n, place := range places {
		wantLog(t, b[:place], list[:n], place, impl.OK)
		wantSameLog(t, b[:place])
	}
	wantLog(t, b, list, len(b), impl.OK)
	wantLog(t, nil, nil, 0, impl.OK)
	wantLog(t, []byte{}, nil, 0, impl.OK)
	// Each alone is the first one only with Seq 1.
	for _, r := range list {
		if r.Seq > 1 {
			wantLog(t, mustRecord(t, r), nil, 0, impl.OK)
		}
		r.Seq = 1
		one := mustRecord(t, r)
		wantLog(t, one, []impl.Record{r}, len(one), impl.OK)
	}
}

// What is left of a log that is cut at any byte is its whole records.
func TestLogCutAtEveryByte(t *testing.T) {
	list := sampleLog()
	b, places := logBytes(t, list)
	places = append(places, len(b))
	for size := range len(b) + 1 {
		n, _ := slices.BinarySearch(places, size+1)
		wantLog(t, b[:size], list[:n-1], places[n-1], impl.OK)
	}
}

// Whatever one byte is changed to, the records ahead of it are there, and neither
// the one in which it stands nor those behind it.
func TestLogWithOneByteChanged(t *testing.T) {
	list := sampleLog()[:6]
	b, places := logBytes(t, list)
	places = append(places, len(b))
	for at := range b {
		n, _ := slices.BinarySearch(places, at+1)
		for sign := range 256 {
			changed := slices.Clone(b)
			changed[at] = byte(sign)
			if byte(sign) == b[at] {
				wantLog(t, changed, list, len(b), impl.OK)
			} else {
				wantLog(t, changed, list[:n-1], places[n-1], impl.OK)
			}
		}
		// One byte more or fewer.
		wantSameLog(t, slices.Delete(slices.Clone(b), at, at+1))
		for _, sign := range []byte{0, 1, 2, 5, 127, 128, 255, b[at]} {
			wantSameLog(t, slices.Insert(slices.Clone(b), at, sign))
		}
	}
}

// A whole record that is not the next one ends the log, though the next one follows.
func TestLogOfOtherSeqs(t *testing.T) {
	list := sampleLog()
	b, places := logBytes(t, list)
	places = append(places, len(b))
	for n, place := range places {
		for _, seq := range []int{1, 2, 3, n - 1, n, n + 1, n + 2, n + 3, n + 129, 128, 256, impl.MaxNum} {
			if seq < 1 {
				continue
			}
			for _, r := range []impl.Record{putRecord(seq, docWith("more")), deleteRecord(seq, "a")} {
				more := append(slices.Clone(b[:place]), mustRecord(t, r)...)
				next := append(slices.Clone(more), mustRecord(t, putRecord(n+1, docWith("next")))...)
				last := append(slices.Clone(more), mustRecord(t, putRecord(seq+btoi(seq < impl.MaxNum), docWith("next")))...)
				if seq != n+1 {
					for _, log := range [][]byte{more, next, last} {
						wantLog(t, log, list[:n], place, impl.OK)
					}
					continue
				}
				whole := append(slices.Clone(list[:n]), r)
				wantLog(t, more, whole, len(more), impl.OK)
				wantLog(t, next, whole, len(more), impl.OK)
				wantLog(t, last, append(whole, putRecord(seq+1, docWith("next"))), len(last), impl.OK)
			}
		}
		// A record left out, and one that stands there twice.
		if n < len(list) {
			wantLog(t, slices.Concat(b[:place], b[places[n+1]:]), list[:n], place, impl.OK)
			wantLog(t, slices.Concat(b[:places[n+1]], b[place:]), list[:n+1], places[n+1], impl.OK)
		}
	}
	// Two that have changed places.
	wantLog(t, slices.Concat(b[places[1]:places[2]], b[:places[1]]), nil, 0, impl.OK)
	wantLog(t, slices.Concat(b[:places[1]], b[places[2]:places[3]], b[places[1]:places[2]]), list[:1], places[1], impl.OK)
}

func TestLogWithBytesBehind(t *testing.T) {
	b, _ := logBytes(t, sampleLog())
	for _, size := range []int{1, 2, 3, 4, 5, 100} {
		for sign := range 256 {
			wantLog(t, slices.Concat(b, bytes.Repeat([]byte{byte(sign)}, size)), sampleLog(), len(b), impl.OK)
			wantLog(t, bytes.Repeat([]byte{byte(sign)}, size), nil, 0, impl.OK)
		}
	}
	for size := range b[:60] {
		wantLog(t, slices.Concat(b, b[:size]), sampleLog(), len(b), impl.OK)
	}
	// What is right but begins a byte too late is nothing.
	wantLog(t, slices.Concat([]byte{0}, b), nil, 0, impl.OK)
	wantLog(t, slices.Concat([]byte{0, 0, 0, 0, 0}, b), nil, 0, impl.OK)
	wantLog(t, framed(nil), nil, 0, impl.OK)
	wantLog(t, slices.Concat(framed(nil), b), nil, 0, impl.OK)
}

// wantWrong wants a part, whole and with a right sum, to be no record: alone, behind
// right ones, and with right ones behind it.
func wantWrong(t *testing.T, part []byte) {
	t.Helper()
	whole := framed(part)
	wantLog(t, whole, nil, 0, impl.OK)
	wantSameLog(t, whole)
	next := mustRecord(t, putRecord(2, docWith("b")))
	wantLog(t, slices.Concat(whole, next), nil, 0, impl.OK)
}

// Records that are whole, with right sums, but wrong.
func TestLogOfWrongRecords(t *testing.T) {
	doc, _ := docBytesOf(docWith("a"))
	right := append([]byte{1, 1}, doc...)
	wantLog(t, framed(right), []impl.Record{putRecord(1, docWith("a"))}, len(right)+5, impl.OK)
	wantLog(t, framed([]byte{2, 1, 'a'}), []impl.Record{deleteRecord(1, "a")}, 8, impl.OK)
	for kind := range 256 {
		if kind != 1 {
			wantWrong(t, append([]byte{byte(kind), 1}, doc...))
		}
		if kind != 2 {
			wantWrong(t, []byte{byte(kind), 1, 'a'})
		}
		wantWrong(t, []byte{byte(kind)})
		wantWrong(t, []byte{byte(kind), 1})
		wantWrong(t, []byte{byte(kind), 128})
		wantWrong(t, []byte{byte(kind), 0, 'a'})
		wantWrong(t, append([]byte{byte(kind), 0}, doc...))
	}
	wantWrong(t, nil)
	// Seq: 1 in more bytes than it needs, without an end, above MaxNum.
	for _, seq := range [][]byte{{}, {129, 0}, {129, 128, 0}, {129, 128, 128, 128, 128, 128, 128, 128, 0}, {129}, {129, 128}, {255, 255, 255, 255, 255, 255, 255, 255, 63}, {255, 255, 255, 255, 255, 255, 255, 255, 127}, {129, 128, 128, 128, 128, 128, 128, 128, 128, 1}} {
		wantWrong(t, slices.Concat([]byte{2}, seq, []byte{'a'}))
		wantWrong(t, slices.Concat([]byte{1}, seq, doc))
	}
	// The id of a delete.
	for _, id := range []string{"", " ", "a b", "\x00", "\x7f", "\xff", "\u00e9", "a\n", strings.Repeat("a", 31), strings.Repeat("a", 1000)} {
		wantWrong(t, append([]byte{2, 1}, id...))
		bad, _ := docBytesOf(docWith(id))
		wantWrong(t, append([]byte{1, 1}, bad...))
	}
	// A put that has more behind its document, or less.
	wantWrong(t, append(slices.Clone(right), 0))
	wantWrong(t, append(slices.Clone(right), right...))
	wantWrong(t, append(slices.Clone(right), doc...))
	for size := range right {
		wantWrong(t, right[:size])
	}
	// Numbers within the document that have more bytes than they need, or are beyond
	// what a document has.
	for _, body := range [][]byte{
		{129, 0, 'a', 0}, {1, 'a', 128, 0}, {1, 'a', 1, 129, 0, 'n', 0, 0}, {1, 'a', 1, 1, 'n', 128, 0, 0}, {1, 'a', 1, 1, 'n', 0, 129, 0, 2}, {1, 'a', 1, 1, 'n', 0, 1, 130, 0}, {1, 'a', 1, 1, 'n', 0, 1, 129, 192, 168, 202, 154, 58}, {1, 'a', 1, 1, 'n', 0, 1, 255, 255, 255, 255, 255, 255, 255, 255, 63},
		{1, 'a', 1}, {1, 'a', 1, 1, 'n', 0}, {1, 'a', 2, 1, 'n', 0, 0}, {2, 'a', 0}, {0, 0}, {1, 'a', 0, 0},
	} {
		wantWrong(t, append([]byte{1, 1}, body...))
	}
	many := append(putBehind([]byte{1, 1, 1, 'a'}, impl.MaxList+1), make([]byte, 3*(impl.MaxList+1))...)
	wantWrong(t, many)
	long := append(textBehind([]byte{1, 1, 1, 'a', 1, 1, 'f', 1}, strings.Repeat("t", impl.MaxText+1)), 0)
	wantWrong(t, long)
}

// The length and the sum of a record, written otherwise.
func TestLogOfWrongFrames(t *testing.T) {
	for _, r := range []impl.Record{deleteRecord(1, "a"), putRecord(1, docWith("a")), putRecord(1, docWith("a", textsIn("t", strings.Repeat("x", 200))))} {
		part := partOf(r)
		b := framed(part)
		head, sum := b[:len(b)-4-len(part)], b[len(b)-4:]
		wantLog(t, slices.Concat(head, part, sum), []impl.Record{r}, len(b), impl.OK)
		longer := slices.Clone(head)
		longer[len(longer)-1] += 128
		for _, zeros := range []int{0, 1, 2, 5, 8, 9} {
			padded := slices.Concat(longer, bytes.Repeat([]byte{128}, zeros), []byte{0})
			wantLog(t, slices.Concat(padded, part, sum), nil, 0, impl.OK)
		}
		// The sum the other way round, of other bytes, or not there.
		back := slices.Clone(sum)
		slices.Reverse(back)
		for _, other := range [][]byte{back, {0, 0, 0, 0}, summed(b[:len(b)-4])[len(b)-4:], summed(part[1:])[len(part)-1:], nil, sum[:3]} {
			wantLog(t, slices.Concat(head, part, other), nil, 0, impl.OK)
			wantLog(t, slices.Concat(head, part, other, make([]byte, 9)), nil, 0, impl.OK)
		}
		// A length that is one too small or too great.
		for _, size := range []int{len(part) - 1, len(part) + 1, 0, 1 << 20, impl.MaxNum} {
			wantSameLog(t, slices.Concat(putBehind(nil, size), part, sum, make([]byte, 9)))
			wantLog(t, slices.Concat(putBehind(nil, size), part, sum), nil, 0, impl.OK)
		}
	}
}

// Every small part, with its right sum, alone and behind a right record.
func TestLogOfAllSmallParts(t *testing.T) {
	first := mustRecord(t, deleteRecord(1, "z"))
	found := 0
	every([]string{"\x00", "\x01", "\x02", "\x03", "!", "\x80"}, 6, func(text string) {
		b := framed([]byte(text))
		wantSameLog(t, b)
		wantSameLog(t, slices.Concat(first, b))
		list, _, _ := logOf(b)
		found += len(list)
	})
	if found < 5 {
		t.Errorf("only %d of them are records", found)
	}
}

func TestLogOfAllShortBytes(t *testing.T) {
	for one := range 65536 {
		wantLog(t, []byte{byte(one / 256), byte(one % 256)}, nil, 0, impl.OK)
	}
	every([]string{"\x00", "\x01", "\x03", "a", "\x80"}, 6, func(text string) { wantSameLog(t, []byte(text)) })
}

func TestLogOfRandomBytes(t *testing.T) {
	source := rand.New(rand.NewSource(72))
	list := sampleLog()
	b, _ := logBytes(t, list)
	for range 20000 {
		log := slices.Clone(b[:source.Intn(len(b))])
		for range source.Intn(4) {
			if len(log) > 0 {
				log[source.Intn(len(log))] ^= byte(1 << source.Intn(8))
			}
		}
		wantSameLog(t, log)
		part := make([]byte, source.Intn(12))
		for i := range part {
			part[i] = byte(source.Intn([]int{3, 5, 100, 256}[source.Intn(4)]))
		}
		wantSameLog(t, part)
		wantSameLog(t, framed(part))
	}
}

func TestLogsOfRandomRecords(t *testing.T) {
	source := rand.New(rand.NewSource(73))
	for range 100 {
		var list []impl.Record
		for range source.Intn(20) {
			r := putRecord(len(list)+1, randomDoc(source, shelf()))
			if source.Intn(3) == 0 {
				r = deleteRecord(r.Seq, r.Doc.Id)
			}
			list = append(list, r)
		}
		b, _ := logBytes(t, list)
		wantLog(t, b, list, len(b), impl.OK)
		for range 20 {
			wantSameLog(t, b[:source.Intn(len(b)+1)])
		}
	}
}

// Seqs of one, two and three bytes, in as many records as a log can have.
func TestLogOfManyRecords(t *testing.T) {
	var b []byte
	var list []impl.Record
	for {
		r := deleteRecord(len(list)+1, string(rune('!'+len(list)%94)))
		more := framed(partOf(r))
		if len(b)+len(more) > impl.MaxBytes {
			break
		}
		b, list = append(b, more...), append(list, r)
	}
	if len(list) < 100000 {
		t.Fatalf("only %d records", len(list))
	}
	wantLog(t, b, list, len(b), impl.OK)
	wantLog(t, b[:len(b)-1], list[:len(list)-1], len(b)-10, impl.OK)
	full := append(b, make([]byte, impl.MaxBytes-len(b))...)
	wantLog(t, full, list, len(b), impl.OK)
	wantLog(t, append(full, 0), nil, 0, impl.ErrLong)
}

// A log of just MaxBytes bytes is read; one more is too long, whatever it holds.
func TestLogSizes(t *testing.T) {
	first := putRecord(1, docWith("a"))
	head := mustRecord(t, first)
	for more := -1; more <= 0; more++ {
		r := sizedRecord(2, impl.MaxBytes-len(head)+more)
		b := slices.Concat(head, mustRecord(t, r))
		if len(b) != impl.MaxBytes+more {
			t.Fatalf("%d bytes", len(b))
		}
		wantLog(t, b, []impl.Record{first, r}, len(b), impl.OK)
		wantLog(t, b[:len(b)-1], []impl.Record{first}, len(head), impl.OK)
		for range -more {
			b = append(b, 7)
		}
		wantLog(t, b, []impl.Record{first, r}, len(b)+more, impl.OK)
		wantLog(t, append(b, 7), nil, 0, impl.ErrLong)
	}
	for _, sign := range []byte{0, 1, 128, 255} {
		wantLog(t, bytes.Repeat([]byte{sign}, impl.MaxBytes), nil, 0, impl.OK)
		wantLog(t, bytes.Repeat([]byte{sign}, impl.MaxBytes+1), nil, 0, impl.ErrLong)
		wantLog(t, append(slices.Clone(head), bytes.Repeat([]byte{sign}, impl.MaxBytes-len(head))...), []impl.Record{first}, len(head), impl.OK)
		wantLog(t, append(slices.Clone(head), bytes.Repeat([]byte{sign}, impl.MaxBytes+1-len(head))...), nil, 0, impl.ErrLong)
	}
	wantLog(t, make([]byte, 1<<24), nil, 0, impl.ErrLong)
	// One that would be right, but for a byte too much.
	r := sizedRecord(2, impl.MaxBytes-len(head)+1)
	wantLog(t, slices.Concat(head, framed(partOf(r))), nil, 0, impl.ErrLong)
}
