package tests

import (
	"bytes"
	"slices"
	"testing"

	"loop.example/g00018/impl"
)

func TestDictBytesInWritten(t *testing.T) {
	for _, c := range []struct {
		terms []string
		want  []byte
	}{
		{nil, []byte{1, 0, 235, 116, 29, 100}},
		{[]string{"a"}, []byte{2, 2, 97, 1, 1, 72, 253, 57, 226}},
		{[]string{"\x00", "\xff"}, []byte{2, 4, 0, 1, 255, 1, 1, 247, 211, 31, 183}},
		{[]string{"cat", "cats", "rat", "rats"}, []byte{5, 4, 99, 1, 114, 1, 2, 97, 2, 2, 116, 3, 3, 115, 4, 1, 108, 221, 72, 112}},
	} {
		d := wantBuilt(t, c.terms)
		if b, code := impl.DictBytes(d); code != impl.OK || !bytes.Equal(b, c.want) {
			t.Errorf("DictBytes of the dictionary of %q: %v, code %d, want %v", c.terms, b, code, c.want)
		}
		wantRead(t, c.want, d, impl.OK)
	}
}

func wantCorrupt(t *testing.T, b []byte) {
	t.Helper()
	wantRead(t, b, impl.Dict{}, impl.ErrCorrupt)
}

func sampleDicts() []impl.Dict {
	var list []impl.Dict
	for _, terms := range [][]string{nil, {"a"}, {"cat", "cats", "rat", "rats"}, {"\x00", "\x00\xff", "\xff"}, {"a", "ab", "b", "bab"}} {
		list = append(list, automatonOf(terms))
	}
	return list
}

// One byte is changed, left out or put in: the sum tells it.
func TestReadDictOfChangedBytes(t *testing.T) {
	for _, d := range sampleDicts() {
		b := summed(bodyOf(d))
		for place := range b {
			wantCorrupt(t, b[:place])
			wantCorrupt(t, b[place+1:])
			wantCorrupt(t, slices.Delete(slices.Clone(b), place, place+1))
			for v := range 256 {
				wantCorrupt(t, slices.Insert(slices.Clone(b), place, byte(v)))
				if changed := slices.Clone(b); byte(v) != b[place] {
					changed[place] = byte(v)
					wantCorrupt(t, changed)
				}
			}
		}
		for v := range 256 {
			wantCorrupt(t, append(slices.Clone(b), byte(v)))
		}
		wantCorrupt(t, append(slices.Clone(b), b...))
	}
}

// The same with the sum made right: only what DictBytes gives of a valid one is
// taken.
func TestReadDictOfChangedBytesWithTheirSum(t *testing.T) {
	taken := 0
	try := func(body []byte) {
		b := summed(body)
		d, code := impl.ReadDict(b)
		if code != impl.OK {
			if code != impl.ErrCorrupt || !noDict(d) {
				t.Errorf("ReadDict of %v: %s, code %d", b, shortDict(d), code)
			}
			return
		}
		taken++
		if !isRight(d) || !bytes.Equal(bodyOf(d), body) {
			t.Errorf("ReadDict of %v: %s", b, shortDict(d))
		}
	}
	for _, d := range sampleDicts() {
		body := bodyOf(d)
		for place := range body {
			try(body[:place])
			try(body[place+1:])
			try(slices.Delete(slices.Clone(body), place, place+1))
			for v := range 256 {
				changed := slices.Clone(body)
				changed[place] = byte(v)
				try(changed)
				try(slices.Insert(slices.Clone(body), place, byte(v)))
			}
		}
		for v := range 256 {
			try(append(slices.Clone(body), byte(v)))
		}
	}
	// Each sample as it is, and with other letters.
	if taken < 1000 {
		t.Errorf("only %d were taken", taken)
	}
}

// A number written longer than it need be stands for the same states.
func TestReadDictOfLongNumbers(t *testing.T) {
	for _, body := range [][]byte{
		{0x82, 0, 2, 97, 1, 1}, {2, 0x82, 0, 97, 1, 1}, {2, 2, 97, 0x81, 0, 1}, {2, 2, 97, 1, 0x81, 0}, {2, 2, 97, 0x81, 0x80, 0, 1}, {0x81, 0, 0}, {1, 0x80, 0},
	} {
		wantCorrupt(t, summed(body))
	}
	wantRead(t, summed([]byte{2, 2, 97, 1, 1}), automatonOf([]string{"a"}), impl.OK)
	wantRead(t, summed([]byte{1, 0}), automatonOf(nil), impl.OK)
}

// The numbers stand for more than there is.
func TestReadDictOfGreatNumbers(t *testing.T) {
	great := []int{3, 127, 128, 511, 512, 513, 514, 1024, impl.MaxStates - 1, impl.MaxStates, impl.MaxStates + 1, 1 << 31, 1 << 33, impl.MaxNum - 1, impl.MaxNum}
	for _, v := range great {
		number, _ := putOf(v)
		for _, tail := range [][]byte{nil, {2, 97, 1, 1}, {0}} {
			wantCorrupt(t, summed(append(slices.Clone(number), tail...)))
			wantCorrupt(t, summed(append(append([]byte{2}, number...), tail...)))
			wantCorrupt(t, summed(append(append([]byte{2, 2, 97}, number...), tail...)))
			wantCorrupt(t, summed(append(append([]byte{2, 2, 97, 1}, number...), tail...)))
		}
	}
	wantCorrupt(t, summed([]byte{255, 255, 255, 255, 255, 255, 255, 255, 255, 255, 1}))
}

// A state with all 256 arcs, and one with one arc more than there are labels.
func TestReadDictOfFullState(t *testing.T) {
	var terms []string
	for label := range 256 {
		terms = append(terms, string([]byte{byte(label)}))
	}
	wantThrough(t, wantBuilt(t, terms))
	body := putBehind([]byte{2}, 2*257)
	for label := range 257 {
		body = append(body, byte(label), 1)
	}
	wantCorrupt(t, summed(append(body, 1)))
}

func TestReadDictSizes(t *testing.T) {
	for size := range 8 {
		wantCorrupt(t, make([]byte, size))
		wantCorrupt(t, summed(make([]byte, size)))
	}
	wantCorrupt(t, nil)
	for _, fill := range []byte{0, 1, 2, 255} {
		wantCorrupt(t, summed(bytes.Repeat([]byte{fill}, impl.MaxBytes-4)))
		wantRead(t, summed(bytes.Repeat([]byte{fill}, impl.MaxBytes-3)), impl.Dict{}, impl.ErrLong)
		wantCorrupt(t, bytes.Repeat([]byte{fill}, impl.MaxBytes))
		wantRead(t, bytes.Repeat([]byte{fill}, impl.MaxBytes+1), impl.Dict{}, impl.ErrLong)
	}
	// As many states and arcs as these bytes can tell.
	body := putBehind(nil, impl.MaxStates)
	for len(body) < impl.MaxBytes-4-64 {
		body = append(body, 62)
		for label := range 31 {
			body = append(body, byte(label), 1)
		}
	}
	wantCorrupt(t, summed(body))
}

// The bytes of the dictionary with the most arcs still are what ReadDict takes.
func TestBytesOfTheGreatestDict(t *testing.T) {
	d := wantBuilt(t, termsOfStates(impl.MaxStates))
	b, code := impl.DictBytes(d)
	if code != impl.OK || len(b) > impl.MaxBytes {
		t.Fatalf("%d bytes, code %d", len(b), code)
	}
	wantRead(t, b, d, impl.OK)
	for _, place := range []int{0, 1, 2, 3, len(b) / 2, len(b) - 1} {
		changed := slices.Clone(b)
		changed[place] ^= 1
		wantCorrupt(t, changed)
		wantCorrupt(t, b[:place])
	}
}
