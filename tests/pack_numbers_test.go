package tests

import (
	"bytes"
	"math"
	"math/rand"
	"slices"
	"testing"

	"loop.example/g00018/impl"
)

func TestPackConstants(t *testing.T) {
	if impl.MaxNum != 4611686018427387903 || impl.Block != 128 || impl.MaxBytes != 1048576 {
		t.Errorf("MaxNum %d, Block %d, MaxBytes %d", impl.MaxNum, impl.Block, impl.MaxBytes)
	}
}

// edgeNumbers stand on both sides of each power of two, so on both sides of
// the greatest number of each count of bytes too, and at the ends of all integers.
func edgeNumbers() []int {
	list := []int{math.MinInt, math.MinInt + 1, math.MaxInt - 1, math.MaxInt, -2, -128}
	for bit := range 63 {
		list = append(list, 1<<bit-2, 1<<bit-1, 1<<bit, 1<<bit+1, -1<<bit)
	}
	return list
}

func TestPutIntInWritten(t *testing.T) {
	for _, c := range []struct {
		v    int
		want []byte
	}{
		{0, []byte{0}}, {1, []byte{1}}, {127, []byte{127}}, {128, []byte{128, 1}}, {129, []byte{129, 1}}, {255, []byte{255, 1}}, {256, []byte{128, 2}},
		{16383, []byte{255, 127}}, {16384, []byte{128, 128, 1}}, {2097151, []byte{255, 255, 127}}, {2097152, []byte{128, 128, 128, 1}},
		{1 << 56, []byte{128, 128, 128, 128, 128, 128, 128, 128, 1}}, {1<<56 - 1, []byte{255, 255, 255, 255, 255, 255, 255, 127}},
		{impl.MaxNum - 1, []byte{254, 255, 255, 255, 255, 255, 255, 255, 63}}, {impl.MaxNum, []byte{255, 255, 255, 255, 255, 255, 255, 255, 63}},
	} {
		wantPut(t, c.v, c.want, impl.OK)
		wantGet(t, c.want, 0, c.v, len(c.want), impl.OK)
	}
	for _, v := range []int{-1, impl.MaxNum + 1, math.MinInt, math.MaxInt} {
		wantPut(t, v, nil, impl.ErrRange)
	}
}

// The greatest number of each count of bytes has one byte less than the next one.
func TestPutIntGrowsBySevenBits(t *testing.T) {
	for size := 1; size <= 8; size++ {
		last, _ := impl.PutInt(1<<(7*size) - 1)
		next, _ := impl.PutInt(1 << (7 * size))
		if len(last) != size || len(next) != size+1 {
			t.Errorf("the last number of %d bytes has %d, the next one %d", size, len(last), len(next))
		}
	}
}

// Whatever stands ahead of a number or behind it, it is read alone.
func TestNumbersComeBack(t *testing.T) {
	source := rand.New(rand.NewSource(3))
	list := edgeNumbers()
	for range 3000 {
		list = append(list, source.Int()>>source.Intn(63))
	}
	for _, v := range list {
		b, code := putOf(v)
		wantPut(t, v, b, code)
		if code != impl.OK {
			continue
		}
		wantGet(t, b, 0, v, len(b), impl.OK)
		for _, ahead := range [][]byte{{0}, {127}, {128}, {255, 255}} {
			whole := slices.Concat(ahead, b, ahead)
			wantGet(t, whole, len(ahead), v, len(ahead)+len(b), impl.OK)
		}
	}
}

func TestNumbersOneBehindTheOther(t *testing.T) {
	var whole []byte
	var numbers []int
	for _, v := range edgeNumbers() {
		if b, code := impl.PutInt(v); code == impl.OK {
			whole = append(whole, b...)
			numbers = append(numbers, v)
		}
	}
	at := 0
	for _, want := range numbers {
		v, next, code := impl.GetInt(whole, at)
		if v != want || code != impl.OK {
			t.Fatalf("at %d: %d, code %d, want %d", at, v, code, want)
		}
		at = next
	}
	if at != len(whole) {
		t.Errorf("the last number ends at %d, not at %d", at, len(whole))
	}
}

func TestGetIntRefusesOtherBytes(t *testing.T) {
	full := bytes.Repeat([]byte{255}, 20)
	noughts := bytes.Repeat([]byte{128}, 20)
	for _, b := range [][]byte{
		{}, {128}, {255}, {128, 128}, full[:8], full[:9], full[:10], full, noughts[:8], noughts[:9], noughts,
		{128, 0}, {255, 0}, {129, 0}, {128, 128, 0}, {255, 255, 0}, slices.Concat(noughts[:8], []byte{0}), slices.Concat(full[:8], []byte{0}),
		slices.Concat(full[:8], []byte{64}), slices.Concat(full[:8], []byte{65}), slices.Concat(full[:8], []byte{127}), slices.Concat(noughts[:8], []byte{64}), slices.Concat(noughts[:8], []byte{127}),
		slices.Concat(noughts[:9], []byte{0}), slices.Concat(noughts[:9], []byte{1}), slices.Concat(noughts[:9], []byte{2}), slices.Concat(full[:9], []byte{1}), slices.Concat(noughts[:8], []byte{192, 0}),
		slices.Concat(noughts[:10], []byte{1}), slices.Concat(noughts, []byte{1}),
	} {
		wantGet(t, b, 0, 0, 0, impl.ErrForm)
		wantGet(t, append([]byte{1, 1}, b...), 2, 0, 0, impl.ErrForm)
	}
}

// Every two bytes, and every last byte behind numbers of every length.
func TestGetIntOfAllShortBytes(t *testing.T) {
	for first := range 256 {
		wantSameGet(t, []byte{byte(first)}, 0)
		for second := range 256 {
			wantSameGet(t, []byte{byte(first), byte(second)}, 0)
		}
	}
	for size := range 12 {
		for last := range 256 {
			for _, fill := range []byte{128, 129, 191, 192, 255} {
				wantSameGet(t, append(bytes.Repeat([]byte{fill}, size), byte(last)), 0)
			}
		}
	}
}

func wantSameGet(t *testing.T, b []byte, at int) {
	t.Helper()
	v, next, code := getOf(b, at)
	wantGet(t, b, at, v, next, code)
}

func TestGetIntPlaces(t *testing.T) {
	b := []byte{172, 2, 5}
	wantGet(t, b, 0, 300, 2, impl.OK)
	wantGet(t, b, 1, 2, 2, impl.OK)
	wantGet(t, b, 2, 5, 3, impl.OK)
	// The end is a place, but no number stands there.
	wantGet(t, b, 3, 0, 0, impl.ErrForm)
	wantGet(t, nil, 0, 0, 0, impl.ErrForm)
	for _, at := range []int{-1, 4, 5, math.MinInt, math.MaxInt} {
		wantGet(t, b, at, 0, 0, impl.ErrBad)
		wantGet(t, nil, at, 0, 0, impl.ErrBad)
	}
	wantGet(t, nil, 1, 0, 0, impl.ErrBad)
}

func TestGetIntLimit(t *testing.T) {
	most := bytes.Repeat([]byte{1}, impl.MaxBytes)
	wantGet(t, most, 0, 1, 1, impl.OK)
	wantGet(t, most, impl.MaxBytes-1, 1, impl.MaxBytes, impl.OK)
	wantGet(t, most, impl.MaxBytes, 0, 0, impl.ErrForm)
	wantGet(t, most, impl.MaxBytes+1, 0, 0, impl.ErrBad)
	tooLong := append(most, 128)
	// Right, at a place that there is not, ending within the number: too long all the same.
	for _, at := range []int{0, -1, impl.MaxBytes, impl.MaxBytes + 1, impl.MaxBytes + 2, math.MaxInt} {
		wantGet(t, tooLong, at, 0, 0, impl.ErrLong)
	}
	wantGet(t, bytes.Repeat([]byte{255}, impl.MaxBytes), 5, 0, 0, impl.ErrForm)
}

// A place that there is not counts ahead of bytes that are wrong everywhere.
func TestGetIntOrderOfFaults(t *testing.T) {
	for _, b := range [][]byte{{}, {128}, {255, 255}, {128, 0}} {
		wantGet(t, b, -1, 0, 0, impl.ErrBad)
		wantGet(t, b, len(b)+1, 0, 0, impl.ErrBad)
	}
}
