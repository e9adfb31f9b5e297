package tests

import (
	"bytes"
	"math"
	"math/bits"
	"math/rand"
	"slices"
	"testing"

	"loop.example/g00018/impl"
)

func TestPackIntsInWritten(t *testing.T) {
	greatestBytes := []byte{1, 62, 255, 255, 255, 255, 255, 255, 255, 63}
	for _, c := range []struct {
		list []int
		want []byte
	}{
		{nil, []byte{0}}, {[]int{}, []byte{0}}, {[]int{0}, []byte{1, 0}}, {[]int{1}, []byte{1, 1, 1}}, {[]int{2}, []byte{1, 2, 2}}, {[]int{255}, []byte{1, 8, 255}}, {[]int{256}, []byte{1, 9, 0, 1}},
		{[]int{1, 2, 3}, []byte{3, 2, 57}}, {[]int{0, 0}, []byte{2, 0}}, {[]int{0, 1, 0}, []byte{3, 1, 2}}, {[]int{5, 0, 7}, []byte{3, 3, 197, 1}},
		{[]int{0, 0, 0, 0, 0, 0, 0, 1}, []byte{8, 1, 128}}, {[]int{0, 0, 0, 0, 0, 0, 0, 0, 1}, []byte{9, 1, 0, 1}},
		{[]int{impl.MaxNum}, greatestBytes}, {[]int{1, impl.MaxNum}, []byte{2, 62, 1, 0, 0, 0, 0, 0, 0, 192, 255, 255, 255, 255, 255, 255, 255, 15}},
	} {
		packInts.want(t, c.list, c.want, impl.OK)
		unpackInts.want(t, c.want, c.list, impl.OK)
	}
}

// One number of each width among noughts, at each place of a short list.
func TestWidths(t *testing.T) {
	for width := 1; width <= 62; width++ {
		for _, v := range []int{1 << (width - 1), 1<<width - 1} {
			for place := range 9 {
				list := make([]int, 9)
				list[place] = v
				wantThere(t, list)
				b, _ := impl.PackInts(list)
				if b[1] != byte(width) || len(b) != 2+(9*width+7)/8 {
					t.Errorf("%d in nine numbers: width %d, %d bytes", v, b[1], len(b))
				}
			}
		}
	}
}

func TestBlocks(t *testing.T) {
	for _, n := range []int{1, 2, 126, 127, 128, 129, 130, 255, 256, 257, 383, 384, 385, 1000, 4095, 4096} {
		for _, v := range []int{0, 1, 2, 3, 1 << 31, 1<<33 - 1, 1 << 61, impl.MaxNum} {
			list := slices.Repeat([]int{v}, n)
			wantThere(t, list)
			// A block's width hangs on its own numbers alone.
			list[n/2] = impl.MaxNum - v
			wantThere(t, list)
			list[n-1] = 1
			wantThere(t, list)
		}
		wantThere(t, rising(n, 0, 1))
		wantThere(t, rising(n, 7, 1<<49))
	}
}

func TestBlocksOfNoughts(t *testing.T) {
	packInts.want(t, make([]int, impl.Block-1), []byte{127, 0}, impl.OK)
	packInts.want(t, make([]int, impl.Block), []byte{128, 1, 0}, impl.OK)
	packInts.want(t, make([]int, impl.Block+1), []byte{129, 1, 0, 0}, impl.OK)
	packInts.want(t, make([]int, 2*impl.Block+1), []byte{129, 2, 0, 0, 0}, impl.OK)
	// A block of noughts ahead of, between and behind others.
	ones, noughts := slices.Repeat([]int{1}, impl.Block), make([]int, impl.Block)
	full := bytes.Repeat([]byte{255}, impl.Block/8)
	packInts.want(t, slices.Concat(noughts, ones, noughts, []int{0, 3}), slices.Concat([]byte{130, 3, 0, 1}, full, []byte{0, 2, 12}), impl.OK)
	unpackInts.want(t, slices.Concat([]byte{130, 3, 0, 1}, full, []byte{0, 2, 12}), slices.Concat(noughts, ones, noughts, []int{0, 3}), impl.OK)
	for _, n := range []int{impl.Block - 1, impl.Block, impl.Block + 1, impl.MaxList} {
		wantThere(t, make([]int, n))
	}
}

// The narrowest and the widest number stand in one block, at all its ends.
func TestOneBitAndSixtyTwo(t *testing.T) {
	for _, places := range [][2]int{{0, 127}, {127, 0}, {0, 1}, {126, 127}, {1, 126}} {
		list := make([]int, impl.Block)
		list[places[0]], list[places[1]] = 1, impl.MaxNum
		wantThere(t, list)
		b, _ := impl.PackInts(list)
		if len(b) != 3+992 || b[2] != 62 {
			t.Errorf("1 and MaxNum at %v: %s", places, shortBytes(b))
		}
	}
	alternating := slices.Repeat([]int{1, impl.MaxNum}, impl.Block/2)
	wantThere(t, alternating)
	wantThere(t, append(alternating, 1))
	wantThere(t, append(alternating, impl.MaxNum, 1))
}

func TestPackLimit(t *testing.T) {
	for _, v := range []int{0, 1, impl.MaxNum} {
		most := slices.Repeat([]int{v}, impl.MaxList)
		wantThere(t, most)
		packInts.want(t, append(most, v), nil, impl.ErrLong)
		packRising.want(t, append(most, v), nil, impl.ErrLong)
	}
}

func TestPackIntsRange(t *testing.T) {
	for _, v := range []int{-1, -2, impl.MaxNum + 1, impl.MaxNum + 2, math.MinInt, math.MaxInt} {
		for _, n := range []int{1, 2, impl.Block, impl.Block + 1, impl.MaxList} {
			for _, place := range []int{0, n / 2, n - 1} {
				list := rising(n, 1, 1)
				list[place] = v
				packInts.want(t, list, nil, impl.ErrRange)
				packRising.want(t, list, nil, impl.ErrRange)
			}
		}
		tooMany := rising(impl.MaxList+1, 1, 1)
		tooMany[0] = v
		packInts.want(t, tooMany, nil, impl.ErrLong)
		packRising.want(t, tooMany, nil, impl.ErrLong)
	}
}

func TestUnpackRefusesWrittenWrongs(t *testing.T) {
	for _, b := range [][]byte{
		nil, {}, {128}, {255}, // no count, or one that ends too soon
		{128, 0}, {129, 0, 0}, {131, 0, 2, 57}, // a count longer than it need be
		{0, 0}, {0, 1}, {0, 0, 0}, // bytes behind no numbers
		{1}, {1, 1}, {3, 2}, {1, 9, 0}, {3, 3, 13}, {1, 62, 255, 255, 255, 255, 255, 255, 255}, // ends within a block
		{1, 0, 0}, {2, 0, 1}, {3, 2, 57, 0}, {3, 2, 57, 57}, {1, 1, 1, 1}, // left over behind the last block
		{3, 2, 121}, {3, 2, 185}, {1, 1, 3}, {1, 1, 129}, {7, 1, 129}, {9, 1, 1, 3}, {9, 1, 1, 129}, {1, 62, 255, 255, 255, 255, 255, 255, 255, 127}, {1, 62, 255, 255, 255, 255, 255, 255, 255, 191}, // a bit left over that is set
		{1, 1, 0}, {3, 3, 209, 0}, {1, 2, 1}, {1, 8, 127}, {2, 1, 0}, {1, 62, 1, 0, 0, 0, 0, 0, 0, 0}, {1, 62, 255, 255, 255, 255, 255, 255, 255, 31}, // too wide
		{1, 63, 255, 255, 255, 255, 255, 255, 255, 127}, {1, 63, 1, 0, 0, 0, 0, 0, 0, 0}, {1, 63, 1}, {1, 64, 255, 255, 255, 255, 255, 255, 255, 255}, {1, 64, 1, 0, 0, 0, 0, 0, 0, 128}, {1, 255}, {1, 128, 1}, // above 62
		{2, 1, 1, 1}, {5, 2, 57}, {9, 1, 1}, {8, 1, 0}, {129, 1, 0}, {130, 1, 0}, {255, 31, 0}, // more numbers than there are
		{128, 1, 0, 0}, {127, 0, 0}, // fewer numbers than there are blocks
	} {
		wantRefused(t, b)
	}
}

func TestUnpackRefusesManyNumbers(t *testing.T) {
	for _, v := range []int{impl.MaxList + 1, impl.MaxList + impl.Block, 1 << 20, 1 << 31, 1 << 32, 1<<32 + 1, impl.MaxNum} {
		count, _ := impl.PutInt(v)
		wantRefused(t, count)
		wantRefused(t, append(count, make([]byte, 32)...))
		wantRefused(t, append(count, make([]byte, 33)...))
		wantRefused(t, append(count, make([]byte, impl.MaxBytes-len(count))...))
	}
	// Behind the count of 4096 numbers stand 32 blocks, behind that of 4097 one more.
	unpackInts.want(t, append([]byte{128, 32}, make([]byte, 32)...), make([]int, 4096), impl.OK)
	wantRefused(t, append([]byte{129, 32}, make([]byte, 33)...))
	wantRefused(t, append([]byte{128, 32}, make([]byte, 31)...))
	wantRefused(t, append([]byte{128, 32}, make([]byte, 33)...))
	// The first block of noughts is too wide; it is not passed over, though the rest would be right behind it.
	wantRefused(t, append([]byte{128, 17, 1}, make([]byte, 16)...))
}

func TestUnpackLimit(t *testing.T) {
	// No list has as many bytes as are looked at.
	most := append([]byte{3, 2, 57}, make([]byte, impl.MaxBytes-3)...)
	wantRefused(t, most)
	wantRefused(t, make([]byte, impl.MaxBytes))
	wantRefused(t, bytes.Repeat([]byte{255}, impl.MaxBytes))
	for _, fill := range []byte{0, 1, 255} {
		tooLong := bytes.Repeat([]byte{fill}, impl.MaxBytes+1)
		unpackInts.want(t, tooLong, nil, impl.ErrLong)
		unpackRising.want(t, tooLong, nil, impl.ErrLong)
	}
}

// All bytes of a few lengths that can begin a small list.
func TestUnpackOfAllShortBytes(t *testing.T) {
	for first := range 256 {
		wantBytes(t, []byte{byte(first)})
		for second := range 256 {
			wantBytes(t, []byte{byte(first), byte(second)})
		}
	}
	for count := range 10 {
		for width := range 10 {
			for last := range 256 {
				wantBytes(t, []byte{byte(count), byte(width), byte(last)})
				for _, behind := range []byte{0, 1, 2, 127, 128, 255} {
					wantBytes(t, []byte{byte(count), byte(width), byte(last), behind})
				}
			}
		}
	}
}

// Each byte of a packed list is changed, each bit of it, each piece cut off:
// what is still taken is what the list that comes back is packed to.
func TestNoOtherBytesAreTaken(t *testing.T) {
	source := rand.New(rand.NewSource(4))
	lists := [][]int{nil, {0}, {1}, {5, 7, 8}, {1, impl.MaxNum}, rising(20, 3, 5), rising(130, 0, 1), append(rising(127, 0, 1), impl.MaxNum), rising(129, 1<<40, 1<<30)}
	for range 30 {
		lists = append(lists, randomList(source))
	}
	for _, list := range lists {
		b, _ := impl.PackInts(list)
		step := 1 + len(b)/40
		for at := 0; at < len(b); at += step {
			wantBytes(t, b[:at])
			wantBytes(t, slices.Delete(slices.Clone(b), at, at+1))
			wantBytes(t, slices.Insert(slices.Clone(b), at, byte(source.Intn(256))))
			for bit := range 8 {
				changed := slices.Clone(b)
				changed[at] ^= 1 << bit
				wantBytes(t, changed)
			}
		}
		wantBytes(t, append(slices.Clone(b), 0))
		for bit := range 8 {
			changed := slices.Clone(b)
			changed[len(b)-1] ^= 1 << bit
			wantBytes(t, changed)
		}
	}
}

// A block of alike numbers is laid by every other width: a greater one is never
// taken, a smaller one only if what is left of the numbers just needs it.
func TestNoOtherWidthIsTaken(t *testing.T) {
	for _, v := range []int{0, 1, 6, 1 << 30, 1 << 60, impl.MaxNum} {
		least := bits.Len(uint(v))
		for _, n := range []int{1, 3, 127, 128} {
			for width := range 256 {
				b, _ := putOf(n)
				b = append(b, byte(width))
				b = append(b, laidBy(v, n, width)...)
				if width > least {
					wantRefused(t, b)
				}
				wantBytes(t, b)
			}
		}
	}
}

// laidBy tells the bytes of n times the lowest width bits of v.
func laidBy(v, n, width int) []byte {
	laid := make([]byte, (width*n+7)/8)
	for i := range n * width {
		laid[i/8] |= byte(v>>(i%width)&1) << (i % 8)
	}
	return laid
}

func randomList(source *rand.Rand) []int {
	n := []int{source.Intn(10), source.Intn(300), 120 + source.Intn(20)}[source.Intn(3)]
	list := make([]int, n)
	for i := range list {
		list[i] = source.Intn(impl.MaxNum) >> source.Intn(62)
	}
	if source.Intn(2) == 0 {
		slices.Sort(list)
		list = slices.Compact(list)
	}
	return list
}

func TestRandomListsComeBack(t *testing.T) {
	source := rand.New(rand.NewSource(5))
	for range 1000 {
		list := randomList(source)
		wantThere(t, list)
		if len(list) > 0 && source.Intn(4) == 0 {
			list[source.Intn(len(list))] = source.Int() - source.Int()
			wantThere(t, list)
		}
	}
}

// Bytes of every sort: each call ends and takes just what the document says.
func TestUnpackOfRandomBytes(t *testing.T) {
	source := rand.New(rand.NewSource(6))
	for range 20000 {
		b := make([]byte, source.Intn(30))
		for i := range b {
			b[i] = byte(source.Intn(1 << (1 + source.Intn(8))))
		}
		if len(b) > 2 && source.Intn(2) == 0 {
			b[0], b[1] = byte(source.Intn(12)), byte(source.Intn(20))
			n := 2 + (int(b[0])*int(b[1])+7)/8
			b = b[:min(n, len(b))]
		}
		wantBytes(t, b)
		wantSameGet(t, b, source.Intn(len(b)+1))
	}
}
