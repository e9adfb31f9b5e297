package tests

import (
	"math/rand"
	"testing"

	"loop.example/g00018/impl"
)

func TestDigestJoinInWritten(t *testing.T) {
	nothing := digest(3, 1, 0)
	wantDigestJoin(t, nothing, nothing, digest(3, 2, 0), impl.OK)
	wantDigestJoin(t, digest(3, 1, 7, 1, 5, 9), digest(3, 1, 1, 4), digest(3, 2, 8, 1, 4, 5, 9), impl.OK)
	wantDigestJoin(t, digest(3, 1, 1, 4), digest(3, 1, 7, 1, 5, 9), digest(3, 2, 8, 1, 4, 5, 9), impl.OK)
	wantDigestJoin(t, digest(3, 1, 7, 1, 5, 9), nothing, digest(3, 2, 7, 1, 5, 9), impl.OK)
	wantDigestJoin(t, nothing, digest(3, 1, 7, 1, 5, 9), digest(3, 2, 7, 1, 5, 9), impl.OK)
	wantDigestJoin(t, digest(1, 2, 3, -4, 0, 0), digest(1, 5, 3, -4, -4, 7), digest(1, 7, 6, -4, -4, -4, 0, 0, 7), impl.OK)
	wantDigestJoin(t, digest(4, 1, 8, 1, 2), digest(4, 1, 8, 8, 9), digest(4, 2, 16, 1, 2, 8, 9), impl.OK)
	wantDigestJoin(t, digest(4, 1, 8, 8, 9), digest(4, 1, 8, 1, 2), digest(4, 2, 16, 1, 2, 8, 9), impl.OK)
	wantDigestJoin(t, digest(1, 1, 1, impl.MaxNumber), digest(1, 1, 1, -impl.MaxNumber), digest(1, 2, 2, -impl.MaxNumber, impl.MaxNumber), impl.OK)
}

func TestDigestJoinOfSamples(t *testing.T) {
	for _, a := range sampleDigests() {
		for _, b := range sampleDigests() {
			wantSameDigestJoin(t, a, b)
			if d, code := impl.DigestJoin(a, b); code == impl.OK {
				wantDigestOK(t, d, true)
			}
		}
	}
}

func TestDigestJoinLimitOnParts(t *testing.T) {
	for _, parts := range []int{1, 2, 2048, 4094, 4095} {
		a, b := digest(2, parts, 1, 5), digest(2, 4096-parts, 1, 3)
		wantDigestJoin(t, a, b, digest(2, 4096, 2, 3, 5), impl.OK)
		a.Parts++
		wantDigestJoin(t, a, b, impl.Digest{}, impl.ErrRange)
		wantDigestJoin(t, b, a, impl.Digest{}, impl.ErrRange)
	}
	wantDigestJoin(t, digest(1, 4096, 0), digest(1, 4096, 0), impl.Digest{}, impl.ErrRange)
	wantDigestJoin(t, digest(1, 4096, 0), digest(1, 1, 0), impl.Digest{}, impl.ErrRange)
	wantDigestJoin(t, digest(1, 4097, 0), digest(1, 1, 0), impl.Digest{}, impl.ErrBad)
}

// One digest joined to nothing again and again, until there are too many parts.
func TestDigestJoinUntilThereAreTooManyParts(t *testing.T) {
	one := digest(5, 1, 0)
	d := one
	for parts := 2; parts <= 4096; parts++ {
		d = mustDigestJoin(t, d, one)
	}
	wantDigestJoin(t, digest(5, 4096, 0), one, impl.Digest{}, impl.ErrRange)
	wantDigestJoin(t, d, one, impl.Digest{}, impl.ErrRange)
}

func TestDigestJoinLimitOnPoints(t *testing.T) {
	for _, n := range []int{0, 1, 100, 256, 511, 512} {
		a, b := digest(1, 1, n, rising(n, 0, 2)...), digest(1, 1, 512-n, rising(512-n, 1, 2)...)
		wantSameDigestJoin(t, a, b)
		if d := mustDigestJoin(t, a, b); len(d.Points) != 512 || d.Count != 512 {
			t.Errorf("%s", shortDigest(d))
		}
		more := digest(1, 1, 513-n, rising(513-n, 1, 2)...)
		if n == 0 {
			wantDigestJoin(t, a, more, impl.Digest{}, impl.ErrBad)
			continue
		}
		wantDigestJoin(t, a, more, impl.Digest{}, impl.ErrMany)
		wantDigestJoin(t, more, a, impl.Digest{}, impl.ErrMany)
	}
	full := digest(4096, 1, 512*4096, make([]int, 512)...)
	wantDigestJoin(t, full, full, impl.Digest{}, impl.ErrMany)
	wantDigestJoin(t, full, digest(4096, 1, 0), digest(4096, 2, 512*4096, make([]int, 512)...), impl.OK)
}

func TestDigestJoinOfDifferentSteps(t *testing.T) {
	for _, steps := range [][2]int{{1, 2}, {3, 2}, {1, 4096}, {4096, 4095}} {
		a, b := digest(steps[0], 1, 1, 4), digest(steps[1], 1, 1, 4)
		wantDigestJoin(t, a, b, impl.Digest{}, impl.ErrRange)
		wantDigestJoin(t, b, a, impl.Digest{}, impl.ErrRange)
		wantDigestJoin(t, digest(steps[0], 1, 0), digest(steps[1], 1, 0), impl.Digest{}, impl.ErrRange)
	}
}

// Not valid as either counts ahead of different steps and too many parts, these
// ahead of too many points.
func TestDigestJoinOrderOfFaults(t *testing.T) {
	full := digest(1, 1, 512, make([]int, 512)...)
	for _, wrong := range wrongDigests() {
		for _, other := range append(wrongDigests(), digest(1, 1, 0), digest(7, 4096, 1, 5), full, digest(3, 1, 7, 1, 5, 9)) {
			wantDigestJoin(t, wrong, other, impl.Digest{}, impl.ErrBad)
			wantDigestJoin(t, other, wrong, impl.Digest{}, impl.ErrBad)
		}
	}
	wantDigestJoin(t, full, full, impl.Digest{}, impl.ErrMany)
	wantDigestJoin(t, full, digest(2, 1, 1024, make([]int, 512)...), impl.Digest{}, impl.ErrRange)
	wantDigestJoin(t, full, digest(1, 4096, 512, make([]int, 512)...), impl.Digest{}, impl.ErrRange)
	wantDigestJoin(t, digest(2, 4096, 512, make([]int, 512)...), full, impl.Digest{}, impl.ErrRange)
	wantDigestJoin(t, full, digest(1, 4095, 512, make([]int, 512)...), impl.Digest{}, impl.ErrMany)
}

// Whichever are joined first, what comes out is the same.
func TestDigestJoinInAnyOrder(t *testing.T) {
	source := rand.New(rand.NewSource(109))
	for range 60 {
		var list []impl.Digest
		step := 1 + source.Intn(6)
		for range 4 {
			list = append(list, mustDigest(t, randomNumbers(source, source.Intn(20), 9), step))
		}
		flat := mustDigestJoin(t, mustDigestJoin(t, mustDigestJoin(t, list[0], list[1]), list[2]), list[3])
		everyOrder(4, func(order []int) {
			a, b, c, d := list[order[0]], list[order[1]], list[order[2]], list[order[3]]
			wantDigestJoin(t, mustDigestJoin(t, a, b), mustDigestJoin(t, c, d), flat, impl.OK)
			wantDigestJoin(t, a, mustDigestJoin(t, b, mustDigestJoin(t, c, d)), flat, impl.OK)
		})
	}
}
