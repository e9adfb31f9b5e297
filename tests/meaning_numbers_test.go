package tests

import (
	"math"
	"math/rand"
	"testing"

	"loop.example/g00018/impl"
)

func wantLog2(t *testing.T, v, want int) {
	t.Helper()
	if log := impl.Log2(v); log != want {
		t.Errorf("Log2 of %d: %d, want %d", v, log, want)
	}
}

func TestLog2Written(t *testing.T) {
	for v, want := range map[int]int{
		0: 0, -1: 0, -1024: 0, math.MinInt: 0, math.MaxInt: 0, 1: 0, 2: 1024, 3: 1623, 4: 2048, 5: 2377, 6: 2647, 7: 2874, 8: 3072, 10: 3401,
		1000: 10204, 1023: 10238, 1024: 10240, 1025: 10241, 1000000: 20409, greatest: 63487, greatest + 1: 0,
	} {
		wantLog2(t, v, want)
	}
}

func TestLog2OfPowers(t *testing.T) {
	for k := range 62 {
		wantLog2(t, 1<<k, 1024*k)
		for off := -3; off <= 3; off++ {
			wantLog2(t, 1<<k+off, log2Of(1<<k+off))
		}
		for part := range 64 {
			v := 1<<k + 1<<k/64*part
			wantLog2(t, v, log2Of(v))
		}
	}
	for off := range 100 {
		wantLog2(t, greatest-off, log2Of(greatest-off))
		wantLog2(t, greatest+1+off, 0)
		wantLog2(t, math.MaxInt-off, 0)
		wantLog2(t, -off, 0)
	}
}

// The least number above the root of 2 is one whose square, cut, is just 2.
func TestLog2AroundTheRootOfTwo(t *testing.T) {
	const root = 1518500250
	for k := range 31 {
		wantLog2(t, root<<k, 1024*(30+k)+512)
		wantLog2(t, (root-1)<<k, 1024*(30+k)+511)
		for off := -5; off <= 5; off++ {
			wantLog2(t, root<<k+off, log2Of(root<<k+off))
			wantLog2(t, (root+off)<<k, log2Of((root+off)<<k))
		}
	}
}

func TestLog2OfAllSmallNumbers(t *testing.T) {
	for v := range 1 << 15 {
		wantLog2(t, v, log2Of(v))
	}
}

// Whatever is cut off below, no logarithm is far off, and none falls.
func TestLog2IsNearAndRises(t *testing.T) {
	source := rand.New(rand.NewSource(9))
	ahead := 0
	for v := 1; v < 1<<20; v++ {
		log := impl.Log2(v)
		if near := 1024 * math.Log2(float64(v)); float64(log) > near+0.01 || float64(log) < near-1.01 || log < ahead {
			t.Fatalf("Log2 of %d: %d, about %f, behind %d", v, log, near, ahead)
		}
		ahead = log
	}
	for range 20000 {
		v := 1 + source.Intn(greatest)>>source.Intn(62)
		wantLog2(t, v, log2Of(v))
	}
}

func wantWeight(t *testing.T, n, with, want int) {
	t.Helper()
	if weight := impl.Weight(n, with); weight != want {
		t.Errorf("Weight of %d, %d: %d, want %d", n, with, weight, want)
	}
}

func TestWeightWritten(t *testing.T) {
	for _, c := range [][3]int{
		{0, 0, 1024}, {1, 0, 2048}, {1, 1, 424}, {2, 0, 2647}, {2, 1, 1024}, {2, 2, 268}, {512, 0, 10242}, {512, 512, 0}, {512, 256, 1024},
		{0, 1, 0}, {1, 2, 0}, {2, 3, 0}, {512, 513, 0}, {513, 0, 0}, {513, 1, 0}, {513, 513, 0}, {513, 514, 0}, {2, -1, 0}, {-1, 0, 0}, {-1, -1, 0}, {-2, -1, 0}, {-1, -2, 0},
		{math.MaxInt, 1, 0}, {math.MinInt, 1, 0}, {1, math.MaxInt, 0}, {1, math.MinInt, 0}, {math.MaxInt, math.MaxInt, 0}, {math.MinInt, math.MinInt, 0},
	} {
		wantWeight(t, c[0], c[1], c[2])
	}
}

func TestWeightOfAll(t *testing.T) {
	for n := -2; n <= 514; n++ {
		for with := -2; with <= n+2; with++ {
			wantWeight(t, n, with, weightOf(n, with))
		}
	}
}

func wantStrength(t *testing.T, freq, length, n, total, want int) {
	t.Helper()
	if strength := impl.Strength(freq, length, n, total); strength != want {
		t.Errorf("Strength of %d, %d, %d, %d: %d, want %d", freq, length, n, total, strength, want)
	}
}

func TestStrengthWritten(t *testing.T) {
	most := impl.MaxText * impl.MaxCorpus
	for _, c := range [][5]int{
		{1, 0, 0, 0, 1692}, {1, 9, 9, 0, 1692}, {2, 9, 9, 0, 1913}, {1, 3, 2, 4, 830}, {1, 1, 1, 1, 1000}, {3, 10, 5, 20, 1189}, {1, 1, 1, 900, 1691}, {1, 1, 1, 901, 1692},
		{0, 1, 1, 1, 0}, {-1, 1, 1, 1, 0}, {1, -1, 1, 1, 0}, {1, 1, -1, 1, 0}, {1, 1, 1, -1, 0},
		{most, 1, 1, 1, 2199}, {most + 1, 1, 1, 1, 0}, {1, most, 1, most, 1000}, {1, most + 1, 1, most, 0}, {1, most, 1, most + 1, 0}, {1, 1, 512, 512, 1000}, {1, 1, 513, 513, 0},
		{1, most, 512, 1, 0}, {most, most, 512, 1, 4}, {most, most, 512, most, 2199}, {most, most, 512, 0, 2199},
	} {
		wantStrength(t, c[0], c[1], c[2], c[3], c[4])
	}
}

// Each argument at its bounds and one beyond, with all others at theirs.
func TestStrengthAtItsBounds(t *testing.T) {
	most := impl.MaxText * impl.MaxCorpus
	great := []int{math.MinInt, -1, 0, 1, 2, 1000, most - 1, most, most + 1, math.MaxInt}
	docs := []int{math.MinInt, -1, 0, 1, 2, 511, 512, 513, math.MaxInt}
	for _, freq := range great {
		for _, length := range great {
			for _, n := range docs {
				for _, total := range great {
					wantStrength(t, freq, length, n, total, strengthOf(freq, length, n, total))
				}
			}
		}
	}
}

func TestStrengthOfSmallNumbers(t *testing.T) {
	for freq := range 6 {
		for length := range 10 {
			for n := range 6 {
				for total := range 40 {
					wantStrength(t, freq, length, n, total, strengthOf(freq, length, n, total))
				}
			}
		}
	}
}
