package tests

import (
	"math/rand"
	"slices"
	"testing"

	"loop.example/g00018/impl"
)

// randomStock tells texts of which some are alike.
func randomStock(source *rand.Rand, n int) []string {
	var texts []string
	for range n {
		b := make([]byte, source.Intn(4))
		for i := range b {
			b[i] = "abc\xff"[source.Intn(4)]
		}
		texts = append(texts, string(b))
	}
	return texts
}

// Promise 24: in each order, told twice, the other way round.
func TestSketchHangsOnNoOrder(t *testing.T) {
	five := []string{"", "cat", "the", "\u4e2d", "a"}
	want := mustSketch(t, five...)
	everyOrder(len(five), func(order []int) {
		var list []string
		for _, i := range order {
			list = append(list, five[i])
		}
		wantSketch(t, list, want, impl.OK)
	})
	source := rand.New(rand.NewSource(105))
	for range 200 {
		texts := randomStock(source, source.Intn(60))
		want := mustSketch(t, texts...)
		twice := append(slices.Clone(texts), texts...)
		source.Shuffle(len(twice), func(i, j int) { twice[i], twice[j] = twice[j], twice[i] })
		wantSketch(t, twice, want, impl.OK)
		slices.Reverse(texts)
		wantSketch(t, texts, want, impl.OK)
		slices.Sort(texts)
		wantSketch(t, slices.Compact(texts), want, impl.OK)
	}
}

// Promise 24: parts joined, in whichever order and with texts in several, are all.
func TestSketchJoinIsTheSketchOfAll(t *testing.T) {
	source := rand.New(rand.NewSource(106))
	for range 200 {
		texts := randomStock(source, source.Intn(80))
		want := mustSketch(t, texts...)
		cut := source.Intn(len(texts) + 1)
		first, second := mustSketch(t, texts[:cut]...), mustSketch(t, texts[cut:]...)
		wantSketchJoin(t, first, second, want, impl.OK)
		wantSketchJoin(t, second, first, want, impl.OK)
		wantSketchJoin(t, want, first, want, impl.OK)
		wantSketchJoin(t, second, want, want, impl.OK)
		all := slotsWith()
		for _, i := range source.Perm(len(texts)) {
			all = mustSketchJoin(t, all, mustSketch(t, texts[i]))
		}
		if !sameSketch(all, want) {
			t.Errorf("%s one by one: %s, want %s", shortTexts(texts), shortSketch(all), shortSketch(want))
		}
	}
}

func TestSketchJoinInAnyOrder(t *testing.T) {
	list := sampleSketches()[:12]
	for _, a := range list {
		for _, b := range list {
			ab := mustSketchJoin(t, a, b)
			wantSketchJoin(t, b, a, ab, impl.OK)
			wantSketchJoin(t, ab, b, ab, impl.OK)
			for _, c := range list {
				wantSketchJoin(t, ab, c, mustSketchJoin(t, a, mustSketchJoin(t, b, c)), impl.OK)
			}
		}
	}
}

// Promise 24: a text more raises one slot, or none, and the count with it.
func TestSketchOfATextMore(t *testing.T) {
	texts := manyTexts(1500)
	last := mustSketch(t)
	lastCount := 0
	for n := range texts {
		k := mustSketch(t, texts[:n+1]...)
		raised := 0
		for i, v := range k.Slots {
			if v < last.Slots[i] {
				t.Fatalf("with %q slot %d falls from %d to %d", texts[n], i, last.Slots[i], v)
			}
			raised += btoi(v > last.Slots[i])
		}
		slot, rank := slotAndRank(texts[n])
		if raised > 1 || raised == 1 && k.Slots[slot] != rank {
			t.Fatalf("%q raises %d slots", texts[n], raised)
		}
		count, _ := impl.SketchCount(k)
		// Where the last slot gets its first text the other way of counting begins.
		if full := !slices.Contains(k.Slots, 0); count < lastCount && full == !slices.Contains(last.Slots, 0) {
			t.Errorf("%d texts are told as %d, one fewer as %d", n+1, count, lastCount)
		}
		last, lastCount = k, count
	}
}
