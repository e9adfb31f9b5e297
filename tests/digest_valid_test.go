package tests

import (
	"math"
	"math/rand"
	"slices"
	"testing"

	"loop.example/g00018/impl"
)

func sampleDigests() []impl.Digest {
	list := []impl.Digest{
		digest(1, 1, 0), digest(4096, 4096, 0), digest(1, 1, 1, 5), digest(3, 1, 7, 1, 5, 9), digest(3, 2, 8, 1, 4, 5, 9), digest(4, 3, 4, 7, 7, 7), digest(2, 1, 4, -3, -3), digest(5, 2, 6, -impl.MaxNumber, impl.MaxNumber),
		{Step: 1, Parts: 1, Count: 512, Points: rising(512, -300, 1)}, {Step: 4096, Parts: 1, Count: 512 * 4096, Points: rising(512, 0, 3)}, {Step: 8, Parts: 9, Count: 512, Points: rising(64, 0, 0)},
	}
	source := rand.New(rand.NewSource(107))
	for range 40 {
		list = append(list, randomDigest(source))
	}
	return list
}

// randomDigest tells one that is valid, be it of parts or not.
func randomDigest(source *rand.Rand) impl.Digest {
	d := impl.Digest{Step: 1 + source.Intn(6), Parts: 1 + source.Intn(5), Count: source.Intn(40)}
	least := (d.Count + d.Step - 1) / d.Step
	most := min(d.Count, (d.Count+d.Parts*(d.Step-1))/d.Step)
	for range least + source.Intn(most-least+1) {
		d.Points = append(d.Points, source.Intn(30)-15)
	}
	slices.Sort(d.Points)
	return d
}

// wrongDigests are not valid, each for one reason.
func wrongDigests() []impl.Digest {
	return []impl.Digest{
		{}, digest(0, 1, 0), digest(1, 0, 0), digest(-1, 1, 0), digest(4097, 1, 1, 5), digest(1, 4097, 1, 5), digest(1, 1, -1), digest(1, 1, 1), digest(1, 1, 0, 5), digest(3, 1, 7, 1, 5), digest(3, 1, 7, 1, 5, 9, 9),
		digest(3, 1, 7, 1, 5, 4), digest(3, 1, 7, 5, 1, 9), digest(1, 1, 1, impl.MaxNumber+1), digest(1, 1, 1, -impl.MaxNumber-1), digest(1, 1, impl.MaxNum, 5), digest(1, 1, impl.MaxNum+1, 5), {Step: 1, Parts: 1, Count: 513, Points: make([]int, 513)},
	}
}

func TestDigestOKOfSamples(t *testing.T) {
	for _, d := range sampleDigests() {
		wantDigestOK(t, d, true)
	}
	for _, d := range wrongDigests() {
		wantDigestOK(t, d, false)
	}
}

// partedInto tells with how many points so many numbers can be kept, when they are
// cut into so many parts, of which some may have none.
func partedInto(count, parts, step int) map[int]bool {
	if parts == 0 {
		return map[int]bool{0: count == 0}
	}
	found := map[int]bool{}
	for first := range count + 1 {
		own := 0
		for place := 0; place < first; place += step {
			own++
		}
		for rest, can := range partedInto(count-first, parts-1, step) {
			if can {
				found[own+rest] = true
			}
		}
	}
	return found
}

// A digest is valid just if it can be that of so many numbers in so many parts.
func TestDigestOKIsWhatPartsGive(t *testing.T) {
	for step := 1; step <= 5; step++ {
		for parts := 1; parts <= 4; parts++ {
			for count := range 10 {
				can := partedInto(count, parts, step)
				for n := range 13 {
					wantDigestOK(t, digest(step, parts, count, rising(n, -3, 2)...), can[n])
				}
			}
		}
	}
}

func TestDigestOKLimitOnStepAndParts(t *testing.T) {
	for _, n := range []int{1, 2, 4095, 4096} {
		wantDigestOK(t, digest(n, 1, 1, 5), true)
		wantDigestOK(t, digest(1, n, 1, 5), true)
		wantDigestOK(t, digest(n, n, 1, 5), true)
		wantDigestOK(t, digest(n, n, 0), true)
	}
	for _, n := range []int{math.MinInt, math.MinInt + 1, -1 << 32, -4096, -1, 0, 4097, 4098, 1<<32 + 1, 1 << 62, math.MaxInt} {
		wantDigestOK(t, digest(n, 1, 1, 5), false)
		wantDigestOK(t, digest(1, n, 1, 5), false)
		wantDigestOK(t, digest(n, n, 1, 5), false)
		wantDigestOK(t, digest(n, 1, 0), false)
		wantDigestOK(t, digest(1, n, 0), false)
	}
}

// No digest has points enough for a Count of MaxNum: Count can be no more than
// MaxDigest steps of MaxList.
func TestDigestOKLimitOnCount(t *testing.T) {
	const most = impl.MaxDigest * impl.MaxList
	full := rising(impl.MaxDigest, 0, 1)
	for _, count := range []int{most - impl.MaxList + 1, most - 1, most} {
		wantDigestOK(t, digest(impl.MaxList, 1, count, full...), true)
		wantDigestOK(t, digest(impl.MaxList, impl.MaxList, count, full...), true)
		wantDigestOK(t, digest(impl.MaxList, 1, count, full[1:]...), false)
	}
	wantDigestOK(t, digest(impl.MaxList, 1, most-impl.MaxList, full...), false)
	wantDigestOK(t, digest(impl.MaxList, 1, most-impl.MaxList, full[1:]...), true)
	for _, count := range []int{math.MinInt, math.MinInt + 1, -impl.MaxNum, -1 << 32, -1, most + 1, 1 << 32, impl.MaxNum - 1, impl.MaxNum, impl.MaxNum + 1, math.MaxInt - 1, math.MaxInt} {
		for _, n := range []int{0, 1, 2, 511, 512} {
			for _, step := range []int{1, 2, 4095, 4096} {
				for _, parts := range []int{1, 4096} {
					wantDigestOK(t, digest(step, parts, count, full[:n]...), false)
				}
			}
		}
	}
	wantDigestOK(t, digest(1, 1, 0), true)
	wantDigestOK(t, digest(1, 1, -1), false)
}

func TestDigestOKLimitOnPoints(t *testing.T) {
	for _, n := range []int{0, 1, 511, 512} {
		wantDigestOK(t, digest(1, 1, n, rising(n, 0, 1)...), true)
		wantDigestOK(t, digest(1, 1, n, make([]int, n)...), true)
		wantDigestOK(t, digest(4096, 4096, n, make([]int, n)...), true)
	}
	for _, n := range []int{513, 514, 4096, 4097, 1 << 20} {
		wantDigestOK(t, digest(1, 1, n, rising(n, 0, 1)...), false)
		wantDigestOK(t, digest(1, 1, n, make([]int, n)...), false)
	}
}

// As few points as Count asks, as many as may be, one fewer and one more; no more
// than Count, however many parts there are.
func TestDigestOKLimitOnPointsByCount(t *testing.T) {
	for _, c := range []struct{ step, parts, count, least, most int }{
		{1, 1, 7, 7, 7}, {1, 4096, 7, 7, 7}, {3, 1, 7, 3, 3}, {3, 1, 6, 2, 2}, {3, 2, 7, 3, 3}, {3, 2, 8, 3, 4}, {3, 3, 7, 3, 4}, {3, 4, 7, 3, 5}, {4, 2, 10, 3, 4}, {4, 9, 2, 1, 2}, {4096, 1, 4096, 1, 1}, {4096, 1, 4097, 2, 2}, {4096, 2, 4097, 2, 2},
		{4096, 4096, 5, 1, 5}, {4096, 500, 4096, 1, 500}, {2, 4096, 300, 150, 300}, {7, 100, 512, 74, 158}, {4096, 4096, 512, 1, 512},
	} {
		for n := c.least - 2; n <= c.most+2; n++ {
			wantDigestOK(t, digest(c.step, c.parts, c.count, make([]int, max(n, 0))...), max(n, 0) >= c.least && n <= c.most)
		}
	}
}

func TestDigestOKLimitOnNumbers(t *testing.T) {
	for _, v := range []int{-impl.MaxNumber, -impl.MaxNumber + 1, -1, 0, 1, impl.MaxNumber - 1, impl.MaxNumber} {
		wantDigestOK(t, digest(1, 1, 1, v), true)
		wantDigestOK(t, digest(1, 1, 3, v, v, v), true)
		wantDigestOK(t, digest(1, 1, 3, -impl.MaxNumber, v, impl.MaxNumber), true)
	}
	for _, v := range []int{math.MinInt, math.MinInt + 1, -impl.MaxNumber - 2, -impl.MaxNumber - 1} {
		wantDigestOK(t, digest(1, 1, 1, v), false)
		wantDigestOK(t, digest(1, 1, 3, v, -impl.MaxNumber, 0), false)
		wantDigestOK(t, digest(1, 1, 2, v, v), false)
	}
	for _, v := range []int{impl.MaxNumber + 1, impl.MaxNumber + 2, impl.NoKey, impl.MaxNum, math.MaxInt - 1, math.MaxInt} {
		wantDigestOK(t, digest(1, 1, 1, v), false)
		wantDigestOK(t, digest(1, 1, 3, 0, impl.MaxNumber, v), false)
		wantDigestOK(t, digest(1, 1, 2, v, v), false)
	}
}

// Points may be equal, but none may be less than the one ahead, at any place.
func TestDigestOKOrderOfPoints(t *testing.T) {
	everyOrder(5, func(order []int) {
		wantDigestOK(t, digest(1, 1, 5, order...), slices.IsSorted(order))
		for i := range order {
			order[i] /= 2
		}
		wantDigestOK(t, digest(1, 1, 5, order...), slices.IsSorted(order))
	})
	for place := 1; place < 512; place++ {
		points := rising(512, 0, 2)
		points[place] = points[place-1]
		wantDigestOK(t, digest(1, 1, 512, points...), true)
		points[place]--
		wantDigestOK(t, digest(1, 1, 512, points...), false)
	}
}

// Each part at each of its edges, together with each of the others.
func TestDigestOKOfAllEdges(t *testing.T) {
	small := []int{math.MinInt, -1, 0, 1, 2, 3, 7, 4095, 4096, 4097, math.MaxInt}
	counts := append([]int{impl.MaxNum, impl.MaxNum + 1, 511, 512, 513, 1024}, small...)
	for _, step := range small {
		for _, parts := range small {
			for _, count := range counts {
				for _, n := range []int{0, 1, 2, 3, 4, 7, 8, 511, 512, 513} {
					wantSameDigestOK(t, digest(step, parts, count, rising(n, -5, 1)...))
				}
			}
		}
	}
}
