package tests

import (
	"math/rand"
	"testing"

	"loop.example/g00018/impl"
)

// filledSlots tells a sketch of which so many slots, spread about, are not 0.
func filledSlots(n, rank int) impl.Sketch {
	k := slotsWith()
	for i := range n {
		k.Slots[i*37%256] = rank
	}
	return k
}

func TestSketchCountInWritten(t *testing.T) {
	// 256 times (8192 less the logarithm of what is left) times 710, by 1048576
	for filled, want := range map[int]int{0: 0, 1: 1, 2: 2, 128: 177, 192: 355, 224: 532, 240: 710, 248: 887, 252: 1065, 254: 1242, 255: 1420} {
		for _, rank := range []int{1, 2, 25} {
			wantSketchCount(t, filledSlots(filled, rank), want, impl.OK)
		}
	}
	for rank := 1; rank <= 25; rank++ {
		wantSketchCount(t, slotsOfAll(rank), 184<<rank, impl.OK)
	}
	// 184 * 256 * 2 to the 25 / (255 * 2 to the 24 + 1)
	k := slotsOfAll(1)
	k.Slots[255] = 25
	wantSketchCount(t, k, 369, impl.OK)
	// .. / (255 + 2 to the 24)
	k = slotsOfAll(25)
	k.Slots[0] = 1
	wantSketchCount(t, k, 94206, impl.OK)
}

// Every number of slots without a text. What the others have counts nothing, as
// long as one is without.
func TestSketchCountOfEachNumberOfSlots(t *testing.T) {
	source := rand.New(rand.NewSource(103))
	last := 0
	for filled := range 256 {
		k := filledSlots(filled, 1)
		wantSameSketchCount(t, k)
		n, _ := impl.SketchCount(k)
		if n < last {
			t.Errorf("%d slots: %d, one fewer: %d", filled, n, last)
		}
		last = n
		for range 5 {
			for i, v := range k.Slots {
				if v > 0 {
					k.Slots[i] = 1 + source.Intn(25)
				}
			}
			wantSketchCount(t, k, n, impl.OK)
		}
	}
}

func TestSketchCountOfFullSketches(t *testing.T) {
	source := rand.New(rand.NewSource(104))
	for low := range 25 {
		for range 40 {
			k := slotsWith()
			for i := range k.Slots {
				k.Slots[i] = 1 + low + source.Intn(25-low)
			}
			wantSameSketchCount(t, k)
		}
	}
	// One slot of each rank amid others of each rank.
	for one := range 26 {
		for others := range 26 {
			k := slotsOfAll(others)
			k.Slots[source.Intn(256)] = one
			wantSameSketchCount(t, k)
		}
	}
}

func TestSketchCountOfSamples(t *testing.T) {
	for _, k := range sampleSketches() {
		wantSameSketchCount(t, k)
	}
}

// It is told roughly how many there are, few or many.
func TestSketchCountIsNear(t *testing.T) {
	texts := manyTexts(impl.MaxList)
	for _, n := range []int{10, 50, 100, 200, 500, 1000, 2000, 4096} {
		k := mustSketch(t, texts[:n]...)
		if count, _ := impl.SketchCount(k); count < n*8/10 || count > n*12/10 {
			t.Errorf("%d texts are told as %d", n, count)
		}
	}
	// Parts of which none may be handed in at once.
	k := slotsWith()
	all := manyTexts(50 * impl.MaxList)
	for len(all) > 0 {
		k = mustSketchJoin(t, k, mustSketch(t, all[:impl.MaxList]...))
		all = all[impl.MaxList:]
	}
	if count, _ := impl.SketchCount(k); count < 50*impl.MaxList*8/10 || count > 50*impl.MaxList*12/10 {
		t.Errorf("%d texts are told as %d", 50*impl.MaxList, count)
	}
}
