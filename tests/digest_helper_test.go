package tests

import (
	"fmt"
	"slices"
	"testing"

	"loop.example/g00018/impl"
)

// What the document says of digests, told a second time: bounds by multiplying,
// not dividing, points by counting how many numbers stand ahead of each, ranks
// point by point, places by trying them.

func isDigest(d impl.Digest) bool {
	if d.Step < 1 || d.Step > 4096 || d.Parts < 1 || d.Parts > 4096 || d.Count < 0 || d.Count > greatest || len(d.Points) > 512 {
		return false
	}
	for i, v := range d.Points {
		if v < -greatestNumber || v > greatestNumber || i > 0 && v < d.Points[i-1] {
			return false
		}
	}
	n := len(d.Points)
	return n <= d.Count && n*d.Step >= d.Count && n*d.Step <= d.Count+d.Parts*(d.Step-1)
}

// numbersAhead tells how many numbers stand ahead of the one at place i when they
// stand in order.
func numbersAhead(list []int, i int) int {
	n := 0
	for j, v := range list {
		if v < list[i] || v == list[i] && j < i {
			n++
		}
	}
	return n
}

func digestOf(list []int, step int) (impl.Digest, int) {
	if len(list) > 4096 {
		return impl.Digest{}, impl.ErrLong
	}
	if step < 1 || step > 4096 {
		return impl.Digest{}, impl.ErrRange
	}
	kept := map[int]int{}
	for i, v := range list {
		if v < -greatestNumber || v > greatestNumber {
			return impl.Digest{}, impl.ErrRange
		}
		if ahead := numbersAhead(list, i); ahead%step == 0 {
			kept[ahead/step] = v
		}
	}
	if len(kept) > 512 {
		return impl.Digest{}, impl.ErrMany
	}
	d := impl.Digest{Step: step, Parts: 1, Count: len(list)}
	for i := range len(kept) {
		d.Points = append(d.Points, kept[i])
	}
	return d, impl.OK
}

// digestRankOf: of the first points, as many as there are parts, each stands for
// itself alone, at least, and every other one for a whole step.
func digestRankOf(d impl.Digest, v int) (int, int, int) {
	if !isDigest(d) {
		return 0, 0, impl.ErrBad
	}
	k, least, most := 0, 0, 0
	for _, point := range d.Points {
		if point > v {
			continue
		}
		k++
		if k <= d.Parts {
			least++
		} else {
			least += d.Step
		}
		most += d.Step
	}
	if most > d.Count {
		most = d.Count
	}
	return least, most, impl.OK
}

func digestAtOf(d impl.Digest, part int) (int, int) {
	switch {
	case !isDigest(d):
		return 0, impl.ErrBad
	case part < 0 || part > 100:
		return 0, impl.ErrRange
	case d.Count == 0:
		return 0, impl.ErrMissing
	}
	place := 0
	for 100*(place+1) <= part*(len(d.Points)-1) {
		place++
	}
	return d.Points[place], impl.OK
}

func digestJoinOf(a, b impl.Digest) (impl.Digest, int) {
	if !isDigest(a) || !isDigest(b) {
		return impl.Digest{}, impl.ErrBad
	}
	if a.Step != b.Step || a.Parts+b.Parts > 4096 {
		return impl.Digest{}, impl.ErrRange
	}
	points := slices.Sorted(slices.Values(slices.Concat(a.Points, b.Points)))
	if len(points) > 512 {
		return impl.Digest{}, impl.ErrMany
	}
	return impl.Digest{Step: a.Step, Parts: a.Parts + b.Parts, Count: a.Count + b.Count, Points: points}, impl.OK
}

func digest(step, parts, count int, points ...int) impl.Digest {
	return impl.Digest{Step: step, Parts: parts, Count: count, Points: points}
}

func sameDigest(a, b impl.Digest) bool {
	return a.Step == b.Step && a.Parts == b.Parts && a.Count == b.Count && slices.Equal(a.Points, b.Points)
}

func shortDigest(d impl.Digest) string {
	return fmt.Sprintf("step %d, parts %d, count %d, points %s", d.Step, d.Parts, d.Count, shortList(d.Points))
}

func wantDigestOK(t *testing.T, d impl.Digest, want bool) {
	t.Helper()
	if ok := impl.DigestOK(d); ok != want {
		t.Errorf("DigestOK of %s: %v", shortDigest(d), ok)
	}
}

func wantSameDigestOK(t *testing.T, d impl.Digest) {
	t.Helper()
	wantDigestOK(t, d, isDigest(d))
}

func wantDigest(t *testing.T, list []int, step int, want impl.Digest, wantCode int) {
	t.Helper()
	if d, code := impl.DigestOf(list, step); code != wantCode || !sameDigest(d, want) {
		t.Errorf("DigestOf of %s by %d: %s, code %d, want %s, code %d", shortList(list), step, shortDigest(d), code, shortDigest(want), wantCode)
	}
}

func wantSameDigest(t *testing.T, list []int, step int) {
	t.Helper()
	want, code := digestOf(list, step)
	wantDigest(t, list, step, want, code)
}

func wantDigestRank(t *testing.T, d impl.Digest, v, wantLeast, wantMost, wantCode int) {
	t.Helper()
	if least, most, code := impl.DigestRank(d, v); least != wantLeast || most != wantMost || code != wantCode {
		t.Errorf("DigestRank of %d in %s: %d to %d, code %d, want %d to %d, code %d", v, shortDigest(d), least, most, code, wantLeast, wantMost, wantCode)
	}
}

func wantSameDigestRank(t *testing.T, d impl.Digest, v int) {
	t.Helper()
	least, most, code := digestRankOf(d, v)
	wantDigestRank(t, d, v, least, most, code)
}

func wantDigestAt(t *testing.T, d impl.Digest, part, want, wantCode int) {
	t.Helper()
	if v, code := impl.DigestAt(d, part); v != want || code != wantCode {
		t.Errorf("DigestAt of %d in %s: %d, code %d, want %d, code %d", part, shortDigest(d), v, code, want, wantCode)
	}
}

func wantSameDigestAt(t *testing.T, d impl.Digest, part int) {
	t.Helper()
	want, code := digestAtOf(d, part)
	wantDigestAt(t, d, part, want, code)
}

func wantDigestJoin(t *testing.T, a, b, want impl.Digest, wantCode int) {
	t.Helper()
	if d, code := impl.DigestJoin(a, b); code != wantCode || !sameDigest(d, want) {
		t.Errorf("DigestJoin of %s and %s: %s, code %d, want %s, code %d", shortDigest(a), shortDigest(b), shortDigest(d), code, shortDigest(want), wantCode)
	}
}

func wantSameDigestJoin(t *testing.T, a, b impl.Digest) {
	t.Helper()
	want, code := digestJoinOf(a, b)
	wantDigestJoin(t, a, b, want, code)
}

func mustDigest(t *testing.T, list []int, step int) impl.Digest {
	t.Helper()
	d, code := impl.DigestOf(list, step)
	if code != impl.OK {
		t.Fatalf("DigestOf of %s by %d: code %d", shortList(list), step, code)
	}
	return d
}

func mustDigestJoin(t *testing.T, a, b impl.Digest) impl.Digest {
	t.Helper()
	d, code := impl.DigestJoin(a, b)
	if code != impl.OK {
		t.Fatalf("DigestJoin of %s and %s: code %d", shortDigest(a), shortDigest(b), code)
	}
	return d
}
