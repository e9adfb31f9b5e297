package tests

import (
	"math"
	"math/rand"
	"slices"
	"testing"

	"loop.example/g00018/impl"
)

func howManyAtMost(list []int, v int) int {
	n := 0
	for _, other := range list {
		n += btoi(other <= v)
	}
	return n
}

// wantInBounds holds what a digest tells against the numbers that it is of.
func wantInBounds(t *testing.T, d impl.Digest, list []int) {
	t.Helper()
	wantDigestOK(t, d, true)
	if d.Count != len(list) {
		t.Errorf("%s is of %d numbers", shortDigest(d), len(list))
	}
	values := slices.Concat([]int{math.MinInt, math.MaxInt}, list)
	for _, v := range list {
		values = append(values, v-1, v+1)
	}
	for _, v := range values {
		n := howManyAtMost(list, v)
		least, most, code := impl.DigestRank(d, v)
		if code != impl.OK || n < least || n > most {
			t.Fatalf("%s: at most %d are %d to %d, code %d, but %d of %s", shortDigest(d), v, least, most, code, n, shortList(list))
		}
		// The last point of each part leaves at most a step but itself open.
		if most-least > min(d.Parts, len(list))*(d.Step-1) {
			t.Fatalf("%s: at most %d are %d to %d", shortDigest(d), v, least, most)
		}
	}
	for _, v := range d.Points {
		if !slices.Contains(list, v) {
			t.Errorf("%s: %d is none of %s", shortDigest(d), v, shortList(list))
		}
	}
}

// Promise 25, of one part: all small lists with each step.
func TestDigestBoundsOfSmallLists(t *testing.T) {
	for _, list := range numberLists(5, 0, 1, 2, 5) {
		for step := 1; step <= len(list)+1; step++ {
			wantInBounds(t, mustDigest(t, list, step), list)
		}
	}
}

// Promise 25, of two parts: all small lists cut at each place.
func TestDigestBoundsOfTwoParts(t *testing.T) {
	for _, list := range numberLists(5, 0, 1, 3) {
		for cut := range len(list) + 1 {
			for step := 1; step <= 4; step++ {
				a, b := mustDigest(t, list[:cut], step), mustDigest(t, list[cut:], step)
				wantInBounds(t, mustDigestJoin(t, a, b), list)
			}
		}
	}
}

// Promise 25, of many parts and numbers.
func TestDigestBoundsOfDrawnParts(t *testing.T) {
	source := rand.New(rand.NewSource(110))
	for _, spread := range []int{1, 10, impl.MaxNumber} {
		for range 60 {
			step := 1 + source.Intn(9)
			all := randomNumbers(source, source.Intn(30), spread)
			d := mustDigest(t, all, step)
			for range source.Intn(12) {
				more := randomNumbers(source, source.Intn(30), spread)
				all = append(all, more...)
				d = mustDigestJoin(t, d, mustDigest(t, more, step))
				wantInBounds(t, d, all)
			}
		}
	}
	list := randomNumbers(source, impl.MaxList, 1000)
	for _, step := range []int{8, 9, 64, 4095, 4096} {
		d := mustDigest(t, list, step)
		for v := -1001; v <= 1001; v++ {
			n := howManyAtMost(list, v)
			if least, most, _ := impl.DigestRank(d, v); n < least || n > most {
				t.Errorf("%s: at most %d are %d to %d, but %d", shortDigest(d), v, least, most, n)
			}
		}
	}
}

// A digest does not hang on the order of its numbers, nor do those that are joined
// on which comes first.
func TestDigestHangsOnNoOrder(t *testing.T) {
	source := rand.New(rand.NewSource(111))
	for range 100 {
		list := randomNumbers(source, source.Intn(40), 12)
		step := 1 + source.Intn(7)
		want := mustDigest(t, list, step)
		source.Shuffle(len(list), func(i, j int) { list[i], list[j] = list[j], list[i] })
		wantDigest(t, list, step, want, impl.OK)
		slices.Sort(list)
		wantDigest(t, list, step, want, impl.OK)
		slices.Reverse(list)
		wantDigest(t, list, step, want, impl.OK)
		other := mustDigest(t, randomNumbers(source, source.Intn(40), 12), step)
		wantDigestJoin(t, want, other, mustDigestJoin(t, other, want), impl.OK)
	}
}

// With steps of one every number is kept: ranks are told as they are, places too,
// and joined digests hold all numbers.
func TestDigestWithStepsOfOne(t *testing.T) {
	source := rand.New(rand.NewSource(112))
	for range 60 {
		first, second := randomNumbers(source, 1+source.Intn(200), 50), randomNumbers(source, source.Intn(200), 50)
		all := slices.Concat(first, second)
		d := mustDigestJoin(t, mustDigest(t, first, 1), mustDigest(t, second, 1))
		for v := -51; v <= 51; v++ {
			n := howManyAtMost(all, v)
			wantDigestRank(t, d, v, n, n, impl.OK)
		}
		slices.Sort(all)
		wantDigestJoin(t, mustDigest(t, first, 1), mustDigest(t, second, 1), digest(1, 2, len(all), all...), impl.OK)
		for part := range 101 {
			wantDigestAt(t, d, part, all[part*(len(all)-1)/100], impl.OK)
		}
	}
}
