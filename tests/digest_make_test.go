package tests

import (
	"math"
	"math/rand"
	"slices"
	"testing"

	"loop.example/g00018/impl"
)

func TestDigestInWritten(t *testing.T) {
	for _, c := range []struct {
		list []int
		step int
		want []int
	}{
		{nil, 1, nil}, {nil, 4096, nil}, {[]int{}, 3, nil}, {[]int{5}, 1, []int{5}}, {[]int{5}, 4096, []int{5}}, {[]int{5, -5}, 1, []int{-5, 5}}, {[]int{5, -5}, 2, []int{-5}}, {[]int{5, -5}, 3, []int{-5}},
		{[]int{9, 1, 5, 3, 7, 2, 8}, 1, []int{1, 2, 3, 5, 7, 8, 9}}, {[]int{9, 1, 5, 3, 7, 2, 8}, 2, []int{1, 3, 7, 9}}, {[]int{9, 1, 5, 3, 7, 2, 8}, 3, []int{1, 5, 9}}, {[]int{9, 1, 5, 3, 7, 2, 8}, 6, []int{1, 9}},
		{[]int{9, 1, 5, 3, 7, 2, 8}, 7, []int{1}}, {[]int{4, 4, 4, 4}, 1, []int{4, 4, 4, 4}}, {[]int{4, 4, 4, 4}, 2, []int{4, 4}}, {[]int{4, 4, 4, 4}, 3, []int{4, 4}}, {[]int{1, 0, 1, 0, 1}, 2, []int{0, 1, 1}},
		{[]int{impl.MaxNumber, -impl.MaxNumber, 0}, 2, []int{-impl.MaxNumber, impl.MaxNumber}},
	} {
		wantDigest(t, c.list, c.step, digest(c.step, 1, len(c.list), c.want...), impl.OK)
	}
}

// All lists of up to five of four numbers, with each step up to one more than there
// are numbers.
func TestDigestOfEachSmallList(t *testing.T) {
	for _, list := range numberLists(5, -1, 0, 1, 7) {
		for step := 1; step <= len(list)+1; step++ {
			wantSameDigest(t, list, step)
			wantDigestOK(t, mustDigest(t, list, step), true)
		}
	}
}

// numberLists tells all lists of at most size of these numbers.
func numberLists(size int, numbers ...int) [][]int {
	all := [][]int{nil}
	last := all
	for range size {
		var next [][]int
		for _, list := range last {
			for _, v := range numbers {
				next = append(next, append(slices.Clone(list), v))
			}
		}
		all = append(all, next...)
		last = next
	}
	return all
}

func randomNumbers(source *rand.Rand, n, spread int) []int {
	list := make([]int, n)
	for i := range list {
		list[i] = source.Intn(2*spread+1) - spread
	}
	return list
}

func TestDigestOfDrawnNumbers(t *testing.T) {
	source := rand.New(rand.NewSource(108))
	for _, spread := range []int{2, 50, impl.MaxNumber} {
		for range 200 {
			wantSameDigest(t, randomNumbers(source, source.Intn(60), spread), 1+source.Intn(12))
		}
		list := randomNumbers(source, impl.MaxList, spread)
		for _, step := range []int{7, 8, 9, 100, 4095, 4096} {
			wantSameDigest(t, list, step)
		}
	}
}

func TestDigestLimitOnStep(t *testing.T) {
	for _, list := range [][]int{nil, {5}, {3, 1, 2}} {
		for _, step := range []int{1, 2, 3, 4, 4095, 4096} {
			wantSameDigest(t, list, step)
		}
		for _, step := range []int{math.MinInt, math.MinInt + 1, -1 << 32, -4096, -1, 0, 4097, 4098, 1<<32 + 1, 1 << 62, math.MaxInt} {
			wantDigest(t, list, step, impl.Digest{}, impl.ErrRange)
		}
	}
}

func TestDigestLimitOnNumbers(t *testing.T) {
	for _, v := range []int{-impl.MaxNumber, impl.MaxNumber} {
		wantDigest(t, []int{v}, 1, digest(1, 1, 1, v), impl.OK)
	}
	for _, v := range []int{math.MinInt, -impl.MaxNumber - 2, -impl.MaxNumber - 1, impl.MaxNumber + 1, impl.MaxNumber + 2, impl.MaxNum, math.MaxInt} {
		for _, list := range [][]int{{v}, {v, 0}, {0, v}, {1, v, 2}, {v, v}, append(make([]int, 4095), v)} {
			for _, step := range []int{1, 3, 4096} {
				wantDigest(t, list, step, impl.Digest{}, impl.ErrRange)
			}
		}
	}
}

// MaxDigest points and one more, by the number of numbers and by the step.
func TestDigestLimitOnPoints(t *testing.T) {
	for _, step := range []int{1, 2, 3, 7} {
		most := 512 * step
		for _, n := range []int{most - step + 1, most} {
			wantSameDigest(t, rising(n, 9, -1), step)
			if d := mustDigest(t, rising(n, 9, -1), step); len(d.Points) != 512 {
				t.Errorf("%s", shortDigest(d))
			}
		}
		for _, n := range []int{most + 1, most + 2, most + step} {
			wantDigest(t, rising(n, 9, -1), step, impl.Digest{}, impl.ErrMany)
		}
	}
	wantDigest(t, make([]int, 4096), 7, impl.Digest{}, impl.ErrMany)
	wantDigest(t, make([]int, 4096), 8, digest(8, 1, 4096, make([]int, 512)...), impl.OK)
	wantDigest(t, make([]int, 4096), 1, impl.Digest{}, impl.ErrMany)
}

func TestDigestLimitOnTheList(t *testing.T) {
	wantDigest(t, make([]int, 4096), 4096, digest(4096, 1, 4096, 0), impl.OK)
	for _, n := range []int{4097, 4098, 1 << 20} {
		wantDigest(t, make([]int, n), 4096, impl.Digest{}, impl.ErrLong)
	}
}

// A list that is too long counts ahead of a step or a number out of its range,
// these ahead of too many points.
func TestDigestOrderOfFaults(t *testing.T) {
	wrong := append(make([]int, 4095), impl.MaxNumber+1)
	for _, step := range []int{0, -1, 1, 8, 4096, 4097} {
		wantDigest(t, make([]int, 4097), step, impl.Digest{}, impl.ErrLong)
		wantDigest(t, append(wrong, 0), step, impl.Digest{}, impl.ErrLong)
		wantDigest(t, wrong, step, impl.Digest{}, impl.ErrRange)
	}
	for _, step := range []int{0, -1, 4097, math.MaxInt, math.MinInt} {
		wantDigest(t, make([]int, 4096), step, impl.Digest{}, impl.ErrRange)
		wantDigest(t, wrong, step, impl.Digest{}, impl.ErrRange)
	}
	wantDigest(t, wrong, 7, impl.Digest{}, impl.ErrRange)
	wantDigest(t, wrong[:4095], 7, impl.Digest{}, impl.ErrMany)
}
