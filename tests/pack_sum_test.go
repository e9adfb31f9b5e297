package tests

import (
	"bytes"
	"hash/fnv"
	"math/rand"
	"testing"

	"loop.example/g00018/impl"
)

func wantSum(t *testing.T, b []byte, want int) {
	t.Helper()
	if sum := impl.Sum32(b); sum != want {
		t.Errorf("Sum32 of %s: %d, want %d", shortBytes(b), sum, want)
	}
}

func TestSumInWritten(t *testing.T) {
	wantSum(t, nil, 2166136261)
	wantSum(t, []byte{}, 2166136261)
	wantSum(t, []byte("a"), 3826002220)
	wantSum(t, []byte("foobar"), 0xbf9cf968)
	wantSum(t, []byte{0}, 84696351)
}

// The sum is the well-known one of Fowler, Noll and Vo, so the library tells it too.
func TestSumIsTheKnownOne(t *testing.T) {
	source := rand.New(rand.NewSource(7))
	for n := range 300 {
		b := make([]byte, n)
		source.Read(b)
		wantSum(t, b, knownSum(b))
	}
	for first := range 256 {
		wantSum(t, []byte{byte(first)}, knownSum([]byte{byte(first)}))
	}
}

func knownSum(b []byte) int {
	h := fnv.New32a()
	h.Write(b)
	return int(h.Sum32())
}

func TestSumLimit(t *testing.T) {
	for _, fill := range []byte{0, 1, 255} {
		most := bytes.Repeat([]byte{fill}, impl.MaxBytes)
		wantSum(t, most, knownSum(most))
		wantSum(t, append(most, fill), 0)
		wantSum(t, append(most, fill, fill), 0)
	}
}
