package tests

import (
	"math/rand"
	"testing"

	"loop.example/g00018/impl"
)

func randomSketch(source *rand.Rand) impl.Sketch {
	k := slotsWith()
	most := 1 + source.Intn(26)
	for i := range k.Slots {
		k.Slots[i] = source.Intn(most)
	}
	return k
}

func sampleSketches() []impl.Sketch {
	list := []impl.Sketch{slotsWith(), slotsOfAll(1), slotsOfAll(25), slotsWith(0, 1), slotsWith(255, 25), slotsWith(0, 25, 1, 3, 77, 9, 255, 1)}
	source := rand.New(rand.NewSource(102))
	for range 20 {
		list = append(list, randomSketch(source))
	}
	return list
}

// wrongSketches are not valid, each for one reason.
func wrongSketches() []impl.Sketch {
	list := []impl.Sketch{{}, {Slots: []int{}}, {Slots: []int{3}}, {Slots: make([]int, 255)}, {Slots: make([]int, 257)}, {Slots: make([]int, 512)}, {Slots: make([]int, 1<<20)}}
	for _, v := range wrongRanks() {
		list = append(list, slotsWith(0, v), slotsWith(255, v), slotsWith(31, v, 32, 3))
	}
	return list
}

func TestSketchJoinInWritten(t *testing.T) {
	wantSketchJoin(t, slotsWith(), slotsWith(), slotsWith(), impl.OK)
	wantSketchJoin(t, slotsWith(3, 5), slotsWith(3, 4), slotsWith(3, 5), impl.OK)
	wantSketchJoin(t, slotsWith(3, 4), slotsWith(3, 5), slotsWith(3, 5), impl.OK)
	wantSketchJoin(t, slotsWith(0, 1, 255, 25), slotsWith(1, 25, 255, 2), slotsWith(0, 1, 1, 25, 255, 25), impl.OK)
	wantSketchJoin(t, slotsOfAll(7), slotsWith(9, 25), withSlot(slotsOfAll(7), 9, 25), impl.OK)
}

// withSlot tells a sketch with one slot changed.
func withSlot(k impl.Sketch, slot, rank int) impl.Sketch {
	k = copyOf(k)
	k.Slots[slot] = rank
	return k
}

func TestSketchJoinOfEachTwoRanks(t *testing.T) {
	for a := range 26 {
		for b := range 26 {
			wantSketchJoin(t, slotsOfAll(a), slotsOfAll(b), slotsOfAll(max(a, b)), impl.OK)
			for _, slot := range []int{0, 1, 128, 255} {
				wantSketchJoin(t, slotsWith(slot, a), slotsWith(slot, b), slotsWith(slot, max(a, b)), impl.OK)
			}
		}
	}
}

func TestSketchJoinOfSamples(t *testing.T) {
	for _, a := range sampleSketches() {
		wantSketchJoin(t, a, a, a, impl.OK)
		wantSketchJoin(t, a, slotsWith(), a, impl.OK)
		wantSketchJoin(t, slotsWith(), a, a, impl.OK)
		wantSketchJoin(t, a, slotsOfAll(25), slotsOfAll(25), impl.OK)
		for _, b := range sampleSketches() {
			wantSameSketchJoin(t, a, b)
			if k, _ := impl.SketchJoin(a, b); !impl.SketchOK(k) {
				t.Errorf("SketchJoin of %s and %s isn't valid", shortSketch(a), shortSketch(b))
			}
		}
	}
}

// Not valid as the first, as the second, as both.
func TestSketchJoinOfWrongSketches(t *testing.T) {
	right := slotsWith(3, 5)
	for _, wrong := range wrongSketches() {
		wantSketchOK(t, wrong, false)
		wantSketchJoin(t, wrong, right, impl.Sketch{}, impl.ErrBad)
		wantSketchJoin(t, right, wrong, impl.Sketch{}, impl.ErrBad)
		wantSketchJoin(t, wrong, wrong, impl.Sketch{}, impl.ErrBad)
		wantSketchJoin(t, slotsOfAll(25), wrong, impl.Sketch{}, impl.ErrBad)
		wantSketchJoin(t, wrong, slotsOfAll(25), impl.Sketch{}, impl.ErrBad)
		wantSketchJoin(t, wrong, impl.Sketch{}, impl.Sketch{}, impl.ErrBad)
		wantSketchCount(t, wrong, 0, impl.ErrBad)
	}
}
