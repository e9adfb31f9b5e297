package tests

import (
	"fmt"
	"math"
	"math/rand"
	"slices"
	"strings"
	"testing"

	"loop.example/g00018/impl"
)

// Worked out apart from the program: "" and "cat" share a slot, as "the" and the
// wide character do.
func TestSketchInWritten(t *testing.T) {
	for _, c := range []struct {
		text       string
		slot, rank int
	}{
		{"", 194, 1}, {"a", 29, 2}, {"b", 210, 2}, {"c", 254, 1}, {"ab", 97, 1}, {"cat", 194, 4}, {"cats", 99, 1}, {"foobar", 195, 1}, {"\xff", 158, 1}, {"\x00", 148, 3}, {"the", 220, 2}, {"\u4e2d", 220, 5},
	} {
		wantSketch(t, []string{c.text}, slotsWith(c.slot, c.rank), impl.OK)
		wantSketch(t, []string{c.text, c.text}, slotsWith(c.slot, c.rank), impl.OK)
	}
	wantSketch(t, nil, slotsWith(), impl.OK)
	wantSketch(t, []string{}, slotsWith(), impl.OK)
	wantSketch(t, []string{"a", "b"}, slotsWith(29, 2, 210, 2), impl.OK)
	wantSketch(t, []string{"", "cat"}, slotsWith(194, 4), impl.OK)
	wantSketch(t, []string{"cat", ""}, slotsWith(194, 4), impl.OK)
	wantSketch(t, []string{"the", "\u4e2d", "the", "c"}, slotsWith(220, 5, 254, 1), impl.OK)
}

// Each rank, at the first and the last slot and at some others, with nothing
// above its bit, and with all bits there.
func TestSketchOfEachRank(t *testing.T) {
	for rank := 1; rank <= 25; rank++ {
		for _, slot := range []int{0, 1, 127, 128, 254, 255} {
			for _, above := range []int{0, 1<<24 - 1} {
				wantSketch(t, []string{textOfRank(t, slot, rank, above)}, slotsWith(slot, rank), impl.OK)
			}
		}
	}
}

// What is left of the stirred sum is 0: the rank is 25, not more, at each slot.
func TestSketchOfNoughtsAtEachSlot(t *testing.T) {
	var texts []string
	for slot := range 256 {
		text := textStirredTo(t, slot)
		wantSketch(t, []string{text}, slotsWith(slot, 25), impl.OK)
		texts = append(texts, text)
	}
	wantSketch(t, texts, slotsOfAll(25), impl.OK)
}

// The product of a small sum is not cut; that of all others is, some of them by
// nearly 31 bits.
func TestSketchOfSumsThatAreCut(t *testing.T) {
	for _, sum := range []int{0, 1, 2, 3, 4, 255, 256, 65535, 65536, 65537, 1<<31 - 1, 1 << 31, 1<<31 + 1, 1<<32 - 65536, 1<<32 - 2, 1<<32 - 1, 0xe40c292c, 2166136261} {
		wantSameSketch(t, []string{textWithSum(t, sum)})
	}
	wantSketch(t, []string{textWithSum(t, 0)}, slotsWith(0, 25), impl.OK)
	// 2146121005 xor 261977 (it divided by 8192) is 2145962612: 116 and 256 times 8382666, half of which is odd
	wantSketch(t, []string{textWithSum(t, 1)}, slotsWith(116, 2), impl.OK)
}

// The greatest rank of a slot counts, wherever its text stands.
func TestSketchOfTextsOfOneSlot(t *testing.T) {
	ranks := []int{3, 1, 25, 7}
	var texts []string
	for _, rank := range ranks {
		texts = append(texts, textOfRank(t, 77, rank, 5))
	}
	for set := range 1 << len(ranks) {
		everyOrder(len(ranks), func(order []int) {
			var list []string
			most := 0
			for _, i := range order {
				if set>>i&1 == 1 {
					list = append(list, texts[i])
					most = max(most, ranks[i])
				}
			}
			wantSketch(t, list, slotsWith(77, most), impl.OK)
		})
	}
}

func TestSketchOfDrawnTexts(t *testing.T) {
	source := rand.New(rand.NewSource(101))
	for range 300 {
		var texts []string
		for range source.Intn(40) {
			b := make([]byte, source.Intn(12))
			source.Read(b)
			texts = append(texts, string(b))
		}
		wantSameSketch(t, texts)
		if k, _ := impl.SketchOf(texts); !impl.SketchOK(k) {
			t.Errorf("SketchOf of %s isn't valid", shortTexts(texts))
		}
	}
	for _, text := range textsUpTo(3, "ab\x00\u00e9") {
		wantSameSketch(t, []string{text})
	}
}

func TestSketchLimitOnTexts(t *testing.T) {
	texts := manyTexts(impl.MaxList + 2)
	for _, n := range []int{1, 255, 256, 257, 512, impl.MaxList - 1, impl.MaxList} {
		wantSameSketch(t, texts[:n])
	}
	wantSketch(t, texts[:impl.MaxList+1], impl.Sketch{}, impl.ErrLong)
	wantSketch(t, texts, impl.Sketch{}, impl.ErrLong)
	wantSketch(t, make([]string, impl.MaxList), slotsWith(194, 1), impl.OK)
	wantSketch(t, make([]string, impl.MaxList+1), impl.Sketch{}, impl.ErrLong)
	wantSketch(t, make([]string, 1<<20), impl.Sketch{}, impl.ErrLong)
}

func manyTexts(n int) []string {
	var texts []string
	for i := range n {
		texts = append(texts, fmt.Sprintf("text %d", i))
	}
	return texts
}

func TestSketchLimitOnBytes(t *testing.T) {
	for _, fill := range []string{"a", "\x00", "\xff"} {
		most := strings.Repeat(fill, impl.MaxText)
		wantSameSketch(t, []string{most})
		wantSameSketch(t, []string{"a", most, most[1:], "b"})
		for _, size := range []int{impl.MaxText + 1, impl.MaxText + 2, impl.MaxBytes, impl.MaxBytes + 1} {
			long := strings.Repeat(fill, size)
			for _, texts := range [][]string{{long}, {"a", long}, {long, "a"}, {"a", long, most}, {long, long}, append(manyTexts(impl.MaxList-1), long), append([]string{long}, manyTexts(impl.MaxList)...)} {
				wantSketch(t, texts, impl.Sketch{}, impl.ErrLong)
			}
		}
	}
	// Together they may have more bytes than one may.
	wantSameSketch(t, slices.Repeat([]string{strings.Repeat("x", impl.MaxText)}, 40))
}

func TestSketchLimitOnSlots(t *testing.T) {
	for _, n := range []int{0, 1, 2, 128, impl.Slots - 1, impl.Slots + 1, 2 * impl.Slots, impl.MaxList, impl.MaxList + 1, 1 << 20} {
		for _, rank := range []int{0, 1, 25} {
			wantSketchOK(t, impl.Sketch{Slots: slices.Repeat([]int{rank}, n)}, false)
		}
	}
	wantSketchOK(t, impl.Sketch{}, false)
	for rank := range 26 {
		wantSketchOK(t, slotsOfAll(rank), true)
	}
	wantSketchOK(t, slotsOfAll(26), false)
	wantSketchOK(t, slotsOfAll(-1), false)
}

// Each slot is looked at, and no number is taken for another one that it has the
// low bits of.
func TestSketchLimitOnRanks(t *testing.T) {
	for slot := range 256 {
		for _, rank := range []int{0, 1, 24, 25} {
			wantSketchOK(t, slotsWith(slot, rank), true)
		}
		for _, v := range wrongRanks() {
			wantSketchOK(t, slotsWith(slot, v), false)
			k := slotsOfAll(25)
			k.Slots[slot] = v
			wantSketchOK(t, k, false)
		}
	}
}

func wrongRanks() []int {
	return []int{math.MinInt, math.MinInt + 1, -1 << 32, -257, -256, -255, -231, -1, 26, 27, 255, 256, 257, 256 + 25, 1 << 16, 1<<16 + 3, 1 << 32, 1<<32 + 25, 1 << 62, math.MaxInt - 1, math.MaxInt}
}
