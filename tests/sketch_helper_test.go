package tests

import (
	"fmt"
	"math/big"
	"slices"
	"strings"
	"sync"
	"testing"

	"loop.example/g00018/impl"
)

// What the document says of sketches, told a second time: ranks by bits that are
// written out, slots by looking for the greatest rank of each one, counts by
// fractions.

const cutAbove = 1 << 32

func stirOf(sum int) int {
	h := sum ^ sum/65536
	h = int(new(big.Int).Mod(new(big.Int).Mul(big.NewInt(int64(h)), big.NewInt(2146121005)), big.NewInt(cutAbove)).Int64())
	return h ^ h/8192
}

// slotAndRank tells where a text goes.
func slotAndRank(text string) (int, int) {
	h := stirOf(knownSum([]byte(text)))
	bits := fmt.Sprintf("%024b", h/256)
	return h % 256, 1 + len(bits) - len(strings.TrimRight(bits, "0"))
}

func sketchOf(texts []string) (impl.Sketch, int) {
	if len(texts) > 4096 {
		return impl.Sketch{}, impl.ErrLong
	}
	found := make([][]int, 256)
	for i := range found {
		found[i] = []int{0}
	}
	for _, text := range texts {
		if len(text) > 65536 {
			return impl.Sketch{}, impl.ErrLong
		}
		slot, rank := slotAndRank(text)
		found[slot] = append(found[slot], rank)
	}
	var k impl.Sketch
	for _, ranks := range found {
		k.Slots = append(k.Slots, slices.Max(ranks))
	}
	return k, impl.OK
}

func isSketch(k impl.Sketch) bool {
	return len(k.Slots) == 256 && slices.Min(k.Slots) >= 0 && slices.Max(k.Slots) <= 25
}

func sketchJoinOf(a, b impl.Sketch) (impl.Sketch, int) {
	if !isSketch(a) || !isSketch(b) {
		return impl.Sketch{}, impl.ErrBad
	}
	var k impl.Sketch
	for i := range 256 {
		k.Slots = append(k.Slots, slices.Max([]int{a.Slots[i], b.Slots[i]}))
	}
	return k, impl.OK
}

// sketchCountOf goes by the parts that 2 to the slot goes into one, not into 2 to
// the 25.
func sketchCountOf(k impl.Sketch) (int, int) {
	if !isSketch(k) {
		return 0, impl.ErrBad
	}
	none := 0
	sum := new(big.Rat)
	for _, v := range k.Slots {
		if v == 0 {
			none++
		}
		sum.Add(sum, big.NewRat(1, int64(1)<<v))
	}
	count := new(big.Rat).Quo(big.NewRat(184*256, 1), sum)
	if none > 0 {
		count = big.NewRat(int64(256*(8*1024-log2Of(none))*710), 1024*1024)
	}
	return int(new(big.Int).Quo(count.Num(), count.Denom()).Int64()), impl.OK
}

// slotsWith tells a sketch of no texts but for some slots, each as its number and
// what it has.
func slotsWith(pairs ...int) impl.Sketch {
	k := impl.Sketch{Slots: make([]int, 256)}
	for i := 0; i < len(pairs); i += 2 {
		k.Slots[pairs[i]] = pairs[i+1]
	}
	return k
}

func slotsOfAll(rank int) impl.Sketch {
	return impl.Sketch{Slots: slices.Repeat([]int{rank}, 256)}
}

func sameSketch(a, b impl.Sketch) bool {
	return slices.Equal(a.Slots, b.Slots)
}

// shortSketch tells the slots that are not 0 with their numbers.
func shortSketch(k impl.Sketch) string {
	var parts []string
	for i, v := range k.Slots {
		if v != 0 {
			parts = append(parts, fmt.Sprintf("%d:%d", i, v))
		}
	}
	return fmt.Sprintf("%d slots [%s]", len(k.Slots), cutOff(strings.Join(parts, " ")))
}

func wantSketch(t *testing.T, texts []string, want impl.Sketch, wantCode int) {
	t.Helper()
	if k, code := impl.SketchOf(texts); code != wantCode || !sameSketch(k, want) {
		t.Errorf("SketchOf of %s: %s, code %d, want %s, code %d", shortTexts(texts), shortSketch(k), code, shortSketch(want), wantCode)
	}
}

// wantSameSketch holds an answer against the document's words.
func wantSameSketch(t *testing.T, texts []string) {
	t.Helper()
	want, code := sketchOf(texts)
	wantSketch(t, texts, want, code)
}

func wantSketchJoin(t *testing.T, a, b, want impl.Sketch, wantCode int) {
	t.Helper()
	if k, code := impl.SketchJoin(a, b); code != wantCode || !sameSketch(k, want) {
		t.Errorf("SketchJoin of %s and %s: %s, code %d, want %s, code %d", shortSketch(a), shortSketch(b), shortSketch(k), code, shortSketch(want), wantCode)
	}
}

func wantSameSketchJoin(t *testing.T, a, b impl.Sketch) {
	t.Helper()
	want, code := sketchJoinOf(a, b)
	wantSketchJoin(t, a, b, want, code)
}

func wantSketchCount(t *testing.T, k impl.Sketch, want, wantCode int) {
	t.Helper()
	if n, code := impl.SketchCount(k); n != want || code != wantCode {
		t.Errorf("SketchCount of %s: %d, code %d, want %d, code %d", shortSketch(k), n, code, want, wantCode)
	}
}

func wantSameSketchCount(t *testing.T, k impl.Sketch) {
	t.Helper()
	want, code := sketchCountOf(k)
	wantSketchCount(t, k, want, code)
}

func wantSketchOK(t *testing.T, k impl.Sketch, want bool) {
	t.Helper()
	if ok := impl.SketchOK(k); ok != want {
		t.Errorf("SketchOK of %s: %v", shortSketch(k), ok)
	}
}

func mustSketch(t *testing.T, texts ...string) impl.Sketch {
	t.Helper()
	k, code := impl.SketchOf(texts)
	if code != impl.OK {
		t.Fatalf("SketchOf of %s: code %d", shortTexts(texts), code)
	}
	return k
}

func mustSketchJoin(t *testing.T, a, b impl.Sketch) impl.Sketch {
	t.Helper()
	k, code := impl.SketchJoin(a, b)
	if code != impl.OK {
		t.Fatalf("SketchJoin of %s and %s: code %d", shortSketch(a), shortSketch(b), code)
	}
	return k
}

const (
	sumPrime = 16777619
	sumStart = 2166136261
)

// sumHeads tells texts of three bytes by their sums.
var sumHeads = sync.OnceValue(func() map[uint32][3]byte {
	heads := map[uint32][3]byte{}
	for n := range 1 << 18 {
		head := [3]byte{byte(n), byte(n >> 8), byte('a' + n>>16)}
		heads[uint32(knownSum(head[:]))] = head
	}
	return heads
})

// inverseOf tells by what to multiply, cut to 32 bits, to undo a multiplication.
func inverseOf(n int64) uint32 {
	return uint32(new(big.Int).ModInverse(big.NewInt(n), big.NewInt(cutAbove)).Int64())
}

// textWithSum tells a text of six bytes that has this Sum32: what three bytes at
// its end leave is looked for among the sums of the others.
func textWithSum(t *testing.T, sum int) string {
	t.Helper()
	heads, inverse := sumHeads(), inverseOf(sumPrime)
	for n := range 1 << 24 {
		tail := [3]byte{byte(n >> 16), byte(n >> 8), byte(n)}
		h := uint32(sum)
		for _, b := range slices.Backward(tail[:]) {
			h = h*inverse ^ uint32(b)
		}
		if head, found := heads[h]; found {
			text := string(head[:]) + string(tail[:])
			if knownSum([]byte(text)) != sum {
				t.Fatalf("%q has not the sum %d", text, sum)
			}
			return text
		}
	}
	t.Fatalf("no text with the sum %d", sum)
	return ""
}

// textStirredTo tells a text whose stirred sum is h: each step is undone.
func textStirredTo(t *testing.T, h int) string {
	t.Helper()
	sum := uint32(h)
	sum ^= sum>>13 ^ sum>>26
	sum *= inverseOf(2146121005)
	sum ^= sum >> 16
	if stirOf(int(sum)) != h {
		t.Fatalf("%d is not stirred to %d", sum, h)
	}
	return textWithSum(t, int(sum))
}

// textOfRank tells a text that goes to a slot with a rank; above is what stands
// above the noughts, as far as there is room.
func textOfRank(t *testing.T, slot, rank, above int) string {
	t.Helper()
	h := (1 + 2*above) << (rank - 1) % (1 << 24)
	text := textStirredTo(t, h*256+slot)
	if s, r := slotAndRank(text); s != slot || r != rank {
		t.Fatalf("%q has rank %d at slot %d", text, r, s)
	}
	return text
}
