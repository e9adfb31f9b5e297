package tests

import (
	"math"
	"math/rand"
	"strings"
	"testing"

	"loop.example/g00018/impl"
)

func wantRoute(t *testing.T, id string, shards, want int) {
	t.Helper()
	if at := impl.Route(id, shards); at != want {
		t.Errorf("Route of %s with %d shards: %d, want %d", short(id), shards, at, want)
	}
}

func TestRouteOfKnownSums(t *testing.T) {
	for id, sum := range map[string]int{"": 2166136261, "a": 3826002220, "b": 3876335077, "e": 3758891744, "z": 4278997933, "ab": 1294271946, "A": 3289118412} {
		for shards := 1; shards <= 8; shards++ {
			wantRoute(t, id, shards, sum%shards)
		}
	}
	for i, id := range strings.Split("e f c d a b g h", " ") {
		wantRoute(t, id, 8, i)
	}
}

func TestRouteLimitOnShards(t *testing.T) {
	for _, id := range []string{"", "a", "\xff", strings.Repeat("x", impl.MaxText), strings.Repeat("x", impl.MaxText+1)} {
		for _, shards := range []int{math.MinInt, -1 << 32, -9, -8, -1, 0, 9, 10, 16, 1 << 8, 1<<32 + 1, 1 << 62, math.MaxInt} {
			wantRoute(t, id, shards, -1)
		}
	}
	wantRoute(t, "a", impl.MaxShards, 4)
	wantRoute(t, "a", impl.MaxShards+1, -1)
	wantRoute(t, "a", 1, 0)
	wantRoute(t, "a", 0, -1)
}

func TestRouteLimitOnIds(t *testing.T) {
	for _, fill := range []string{"a", "\x00", "\xff", " "} {
		for shards := 1; shards <= 8; shards++ {
			for _, size := range []int{30, 31, 4096, 4097, impl.MaxText - 1, impl.MaxText} {
				id := strings.Repeat(fill, size)
				wantRoute(t, id, shards, knownSum([]byte(id))%shards)
			}
			for _, size := range []int{impl.MaxText + 1, impl.MaxText + 2, impl.MaxBytes, impl.MaxBytes + 1} {
				wantRoute(t, strings.Repeat(fill, size), shards, -1)
			}
		}
	}
}

// Ids of any bytes; with twice as many shards an id stays where it is, or goes to
// the shard that is as many further on as there were.
func TestRouteOfDrawnIds(t *testing.T) {
	source := rand.New(rand.NewSource(84))
	met := map[[2]int]int{}
	for range 5000 {
		b := make([]byte, source.Intn(40))
		source.Read(b)
		for shards := 1; shards <= 8; shards++ {
			at := impl.Route(string(b), shards)
			wantRoute(t, string(b), shards, knownSum(b)%shards)
			met[[2]int{shards, at}]++
			if further := impl.Route(string(b), 2*shards); shards <= 4 && further != at && further != at+shards {
				t.Errorf("%q: %d of %d shards, %d of twice as many", b, at, shards, further)
			}
		}
	}
	for shards := 1; shards <= 8; shards++ {
		for at := range shards {
			if met[[2]int{shards, at}] < 400 {
				t.Errorf("shard %d of %d has %d ids", at, shards, met[[2]int{shards, at}])
			}
		}
	}
}
