package tests

import (
	"math/rand"
	"reflect"
	"slices"
	"strings"
	"sync"
	"testing"
	"time"

	"loop.example/g00018/impl"
)

// textCases are lists of texts of which some have a code.
func textCases() [][]string {
	source := rand.New(rand.NewSource(113))
	list := [][]string{nil, {}, {""}, {"a", "a"}, {"cat", "", "the"}, {strings.Repeat("x", impl.MaxText)}, {"a", strings.Repeat("x", impl.MaxText+1)}, manyTexts(impl.MaxList), manyTexts(impl.MaxList + 1)}
	for range 10 {
		list = append(list, randomStock(source, 30))
	}
	return list
}

func listCases() [][]int {
	source := rand.New(rand.NewSource(114))
	list := [][]int{nil, {}, {5}, {3, 2, 1}, {1, 2, 3}, {4, 4, 4}, {0, impl.MaxNumber + 1, -1}, rising(512, 900, -1), rising(513, 900, -1), rising(impl.MaxList, 9, -1), rising(impl.MaxList+1, 9, -1)}
	for range 10 {
		list = append(list, randomNumbers(source, 30, 9))
	}
	return list
}

func sketchCases() []impl.Sketch {
	return append(sampleSketches(), wrongSketches()[:6]...)
}

func digestCases() []impl.Digest {
	return append(sampleDigests(), wrongDigests()...)
}

func wantLeft[T any](t *testing.T, what string, argument, before T) {
	t.Helper()
	if !reflect.DeepEqual(wholeCopy(argument), before) {
		t.Errorf("%s wrote into its argument", what)
	}
}

func TestSketchesLeaveTheirArguments(t *testing.T) {
	for _, texts := range textCases() {
		texts = roomyCopy(texts)
		before := wholeCopy(texts)
		impl.SketchOf(texts)
		wantLeft(t, "SketchOf", texts, before)
	}
	for _, a := range sketchCases() {
		a = roomyCopy(a)
		before := wholeCopy(a)
		impl.SketchOK(a)
		impl.SketchCount(a)
		for _, b := range sketchCases() {
			b = roomyCopy(b)
			beforeB := wholeCopy(b)
			impl.SketchJoin(a, b)
			impl.SketchJoin(b, a)
			wantLeft(t, "SketchJoin", b, beforeB)
		}
		impl.SketchJoin(a, a)
		wantLeft(t, "a call", a, before)
	}
}

func TestDigestsLeaveTheirArguments(t *testing.T) {
	for _, list := range listCases() {
		for _, step := range []int{0, 1, 3, 4096} {
			list := roomyCopy(list)
			before := wholeCopy(list)
			impl.DigestOf(list, step)
			wantLeft(t, "DigestOf", list, before)
		}
	}
	for _, a := range digestCases() {
		a = roomyCopy(a)
		before := wholeCopy(a)
		impl.DigestOK(a)
		impl.DigestRank(a, 3)
		impl.DigestAt(a, 50)
		for _, b := range digestCases() {
			b = roomyCopy(b)
			beforeB := wholeCopy(b)
			impl.DigestJoin(a, b)
			impl.DigestJoin(b, a)
			wantLeft(t, "DigestJoin", b, beforeB)
		}
		impl.DigestJoin(a, a)
		wantLeft(t, "a call", a, before)
	}
}

func TestSketchesAnswerNewMemory(t *testing.T) {
	for _, texts := range textCases() {
		first, _ := impl.SketchOf(texts)
		second, _ := impl.SketchOf(texts)
		wantOwnMemory(t, "SketchOf", first, texts, second)
		wantApart(t, first.Slots, second.Slots, -1, "SketchOf of "+shortTexts(texts))
	}
	for _, a := range sketchCases() {
		for _, b := range append(sketchCases(), a) {
			first, _ := impl.SketchJoin(a, b)
			second, _ := impl.SketchJoin(a, b)
			wantOwnMemory(t, "SketchJoin", first, a, b, second)
			wantApart(t, first.Slots, second.Slots, -1, "SketchJoin")
		}
	}
}

// A join with nothing is new memory too.
func TestDigestsAnswerNewMemory(t *testing.T) {
	for _, list := range listCases() {
		for _, step := range []int{0, 1, 3, 4096} {
			first, _ := impl.DigestOf(list, step)
			second, _ := impl.DigestOf(list, step)
			wantOwnMemory(t, "DigestOf", first, list, second)
			wantApart(t, first.Points, second.Points, -1, "DigestOf of "+shortList(list))
		}
	}
	for _, a := range digestCases() {
		for _, b := range append(digestCases(), a, digest(a.Step, 1, 0)) {
			first, _ := impl.DigestJoin(a, b)
			second, _ := impl.DigestJoin(a, b)
			wantOwnMemory(t, "DigestJoin", first, a, b, second)
			wantApart(t, first.Points, second.Points, -1, "DigestJoin")
		}
	}
}

// What is written into an answer, or into an argument behind the call, is not to be
// seen in another answer.
func TestSketchesAndDigestsKeepNothing(t *testing.T) {
	texts := []string{"cat", "the", "a"}
	k := mustSketch(t, texts...)
	copy(texts, []string{"x", "y", "z"})
	want, _ := sketchOf([]string{"cat", "the", "a"})
	if !sameSketch(k, want) {
		t.Errorf("%s, want %s", shortSketch(k), shortSketch(want))
	}
	other := slotsOfAll(1)
	joined := mustSketchJoin(t, k, other)
	overwrite(k.Slots, 9)
	overwrite(other.Slots, 9)
	if want, _ := sketchJoinOf(want, slotsOfAll(1)); !sameSketch(joined, want) {
		t.Errorf("%s, want %s", shortSketch(joined), shortSketch(want))
	}
	wantSameSketch(t, []string{"cat", "the", "a"})

	list := []int{9, 1, 5, 3}
	d := mustDigest(t, list, 2)
	overwrite(list, 0)
	if !sameDigest(d, digest(2, 1, 4, 1, 5)) {
		t.Errorf("%s", shortDigest(d))
	}
	both := mustDigestJoin(t, d, digest(2, 1, 0))
	overwrite(d.Points, 7)
	if !sameDigest(both, digest(2, 2, 4, 1, 5)) {
		t.Errorf("%s", shortDigest(both))
	}
	wantSameDigest(t, []int{9, 1, 5, 3}, 2)
}

// An empty list and nil are the same.
func TestSketchesAndDigestsOfNoList(t *testing.T) {
	wantSketch(t, nil, slotsWith(), impl.OK)
	wantSketch(t, []string{}, slotsWith(), impl.OK)
	for _, points := range [][]int{nil, {}} {
		d := impl.Digest{Step: 2, Parts: 1, Points: points}
		wantDigestOK(t, d, true)
		wantDigest(t, points, 2, d, impl.OK)
		wantDigestJoin(t, d, digest(2, 1, 1, 5), digest(2, 2, 1, 5), impl.OK)
		wantDigestRank(t, d, 0, 0, 0, impl.OK)
		wantDigestAt(t, d, 0, 0, impl.ErrMissing)
		wantSketchOK(t, impl.Sketch{Slots: points}, false)
	}
}

func TestSketchesAndDigestsAtOnce(t *testing.T) {
	texts, list := manyTexts(500), rising(500, 900, -1)
	wantK, _ := sketchOf(texts)
	wantD, _ := digestOf(list, 3)
	var all sync.WaitGroup
	wrong := make([]int, 32)
	for i := range wrong {
		all.Go(func() {
			k, _ := impl.SketchOf(texts)
			both, _ := impl.SketchJoin(k, wantK)
			d, _ := impl.DigestOf(list, 3)
			least, _, _ := impl.DigestRank(wantD, 700)
			wrong[i] = btoi(!sameSketch(both, wantK) || !sameDigest(d, wantD) || least == 0)
		})
	}
	all.Wait()
	if slices.Contains(wrong, 1) {
		t.Errorf("these tell something else: %v", wrong)
	}
}

// The greatest arguments end soon, and those that are far too great at once.
func TestSketchesAndDigestsEndSoon(t *testing.T) {
	start := time.Now()
	texts := slices.Repeat([]string{strings.Repeat("x", impl.MaxText)}, impl.MaxList)
	if _, code := impl.SketchOf(texts); code != impl.OK {
		t.Errorf("code %d", code)
	}
	wantSketch(t, make([]string, 1<<20), impl.Sketch{}, impl.ErrLong)
	wantSketch(t, []string{strings.Repeat("x", 1<<24)}, impl.Sketch{}, impl.ErrLong)
	great := make([]int, 1<<22)
	wantSketchOK(t, impl.Sketch{Slots: great}, false)
	wantSketchJoin(t, impl.Sketch{Slots: great}, slotsWith(), impl.Sketch{}, impl.ErrBad)
	wantDigest(t, great, 1, impl.Digest{}, impl.ErrLong)
	wantDigestOK(t, digest(1, 1, len(great), great...), false)
	wantDigestJoin(t, digest(1, 1, 0), digest(1, 1, len(great), great...), impl.Digest{}, impl.ErrBad)
	wantDigestRank(t, digest(1, 1, len(great), great...), 0, 0, 0, impl.ErrBad)
	wantDigestAt(t, digest(1, 1, len(great), great...), 0, 0, impl.ErrBad)
	if spent := time.Since(start); spent > 30*time.Second {
		t.Errorf("it took %v", spent)
	}
}
