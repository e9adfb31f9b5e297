package tests

import (
	"math"
	"slices"
	"testing"

	"loop.example/g00018/impl"
)

func TestDigestRankInWritten(t *testing.T) {
	one := digest(3, 1, 7, 1, 5, 9)
	for _, c := range [][3]int{{math.MinInt, 0, 0}, {0, 0, 0}, {1, 1, 3}, {2, 1, 3}, {4, 1, 3}, {5, 4, 6}, {8, 4, 6}, {9, 7, 7}, {10, 7, 7}, {math.MaxInt, 7, 7}} {
		wantDigestRank(t, one, c[0], c[1], c[2], impl.OK)
	}
	joined := digest(3, 2, 8, 1, 4, 5, 9)
	for _, c := range [][3]int{{0, 0, 0}, {1, 1, 3}, {3, 1, 3}, {4, 2, 6}, {5, 5, 8}, {8, 5, 8}, {9, 8, 8}} {
		wantDigestRank(t, joined, c[0], c[1], c[2], impl.OK)
	}
	// Equal points count together.
	equal := digest(2, 2, 6, 4, 4, 4, 7)
	for _, c := range [][3]int{{3, 0, 0}, {4, 4, 6}, {5, 4, 6}, {6, 4, 6}, {7, 6, 6}} {
		wantDigestRank(t, equal, c[0], c[1], c[2], impl.OK)
	}
	for _, v := range []int{math.MinInt, -1, 0, 1, math.MaxInt} {
		wantDigestRank(t, digest(1, 1, 0), v, 0, 0, impl.OK)
		wantDigestRank(t, digest(4096, 4096, 0), v, 0, 0, impl.OK)
	}
	// As many parts as points: each one may stand for itself alone.
	wantDigestRank(t, digest(4096, 3, 3, 1, 2, 3), 3, 3, 3, impl.OK)
	wantDigestRank(t, digest(4096, 3, 3000, 1, 2, 3), 2, 2, 3000, impl.OK)
	wantDigestRank(t, digest(4096, 1, 512*4096, rising(512, 0, 1)...), 511, 511*4096+1, 512*4096, impl.OK)
	wantDigestRank(t, digest(4096, 1, 512*4096, rising(512, 0, 1)...), 510, 510*4096+1, 511*4096, impl.OK)
}

// Below the least point, at each, between each two, and above the greatest one.
func TestDigestRankOfSamples(t *testing.T) {
	for _, d := range sampleDigests() {
		values := []int{math.MinInt, math.MinInt + 1, -impl.MaxNumber - 1, -impl.MaxNumber, -1, 0, 1, impl.MaxNumber, impl.MaxNumber + 1, math.MaxInt - 1, math.MaxInt}
		for _, v := range d.Points {
			values = append(values, v-1, v, v+1)
		}
		for _, v := range values {
			wantSameDigestRank(t, d, v)
		}
	}
}

// The bounds rise with v, and the lower one is never above the upper one.
func TestDigestRankRises(t *testing.T) {
	for _, d := range sampleDigests() {
		lastLeast, lastMost := 0, 0
		for _, v := range slices.Concat([]int{math.MinInt, -impl.MaxNumber}, rising(60, -30, 1), []int{impl.MaxNumber, math.MaxInt}) {
			least, most, code := impl.DigestRank(d, v)
			if code != impl.OK || least > most || least < lastLeast || most < lastMost || most > d.Count {
				t.Errorf("%s: at most %d are %d to %d, code %d", shortDigest(d), v, least, most, code)
			}
			lastLeast, lastMost = least, most
		}
		if lastMost != d.Count {
			t.Errorf("%s: at most %d are there at the end", shortDigest(d), lastMost)
		}
	}
}

func TestDigestAtInWritten(t *testing.T) {
	three := digest(3, 1, 7, 1, 5, 9)
	for _, c := range [][2]int{{0, 1}, {1, 1}, {49, 1}, {50, 5}, {99, 5}, {100, 9}} {
		wantDigestAt(t, three, c[0], c[1], impl.OK)
	}
	four := digest(1, 1, 4, -7, -7, 0, 3)
	for _, c := range [][2]int{{0, -7}, {33, -7}, {34, -7}, {66, -7}, {67, 0}, {99, 0}, {100, 3}} {
		wantDigestAt(t, four, c[0], c[1], impl.OK)
	}
	for part := range 101 {
		wantDigestAt(t, digest(9, 1, 1, 5), part, 5, impl.OK)
		wantDigestAt(t, digest(1, 1, 101, rising(101, 0, 1)...), part, part, impl.OK)
		wantDigestAt(t, digest(1, 1, 512, rising(512, 0, 1)...), part, part*511/100, impl.OK)
	}
}

func TestDigestAtOfEachNumberOfPoints(t *testing.T) {
	for n := 1; n <= 512; n++ {
		d := digest(1, 1, n, rising(n, -200, 3)...)
		for _, part := range []int{0, 1, 33, 50, 67, 99, 100} {
			wantSameDigestAt(t, d, part)
		}
	}
	for _, d := range sampleDigests() {
		for part := -2; part <= 102; part++ {
			wantSameDigestAt(t, d, part)
		}
	}
}

func TestDigestAtLimitOnPart(t *testing.T) {
	for _, d := range sampleDigests() {
		for _, part := range []int{math.MinInt, math.MinInt + 1, -1 << 32, -100, -2, -1, 101, 102, 1<<32 + 50, 1 << 62, math.MaxInt} {
			wantDigestAt(t, d, part, 0, impl.ErrRange)
		}
	}
	for _, part := range []int{0, 1, 50, 100} {
		wantDigestAt(t, digest(1, 1, 0), part, 0, impl.ErrMissing)
		wantDigestAt(t, digest(4096, 4096, 0), part, 0, impl.ErrMissing)
	}
}

// A digest that isn't valid counts ahead of a part out of its range, that ahead of
// there being no number.
func TestDigestRankAndAtOfWrongDigests(t *testing.T) {
	for _, d := range wrongDigests() {
		for _, v := range []int{math.MinInt, -1, 0, 5, 50, 100, 101, math.MaxInt} {
			wantDigestRank(t, d, v, 0, 0, impl.ErrBad)
			wantDigestAt(t, d, v, 0, impl.ErrBad)
		}
	}
	for _, part := range []int{-1, 101, math.MinInt, math.MaxInt} {
		wantDigestAt(t, digest(1, 1, 0), part, 0, impl.ErrRange)
	}
}
