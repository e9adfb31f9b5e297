package tests

import (
	"math"
	"slices"
	"testing"

	"loop.example/g00018/impl"
)

func TestPackRisingInWritten(t *testing.T) {
	for _, c := range []struct {
		list []int
		want []byte
	}{
		{nil, []byte{0}}, {[]int{0}, []byte{1, 0}}, {[]int{5}, []byte{1, 3, 5}}, {[]int{5, 7, 8}, []byte{3, 3, 13, 0}}, {[]int{0, 1, 2, 3}, []byte{4, 0}}, {[]int{1, 2, 3, 4}, []byte{4, 1, 1}},
		{[]int{0, 2}, []byte{2, 1, 2}}, {[]int{impl.MaxNum}, []byte{1, 62, 255, 255, 255, 255, 255, 255, 255, 63}}, {[]int{impl.MaxNum - 1, impl.MaxNum}, []byte{2, 62, 254, 255, 255, 255, 255, 255, 255, 63, 0, 0, 0, 0, 0, 0, 0, 0}},
		{[]int{0, impl.MaxNum}, []byte{2, 62, 0, 0, 0, 0, 0, 0, 0, 128, 255, 255, 255, 255, 255, 255, 255, 15}},
	} {
		packRising.want(t, c.list, c.want, impl.OK)
		unpackRising.want(t, c.want, c.list, impl.OK)
	}
}

// Numbers one behind the other have no gaps, so their blocks take a byte each.
func TestPackRisingOfAllNumbers(t *testing.T) {
	packRising.want(t, rising(impl.MaxList, 0, 1), append([]byte{128, 32}, make([]byte, 32)...), impl.OK)
	unpackRising.want(t, append([]byte{128, 32}, make([]byte, 32)...), rising(impl.MaxList, 0, 1), impl.OK)
	wantThere(t, rising(impl.MaxList, impl.MaxNum-impl.MaxList+1, 1))
	wantThere(t, rising(impl.MaxList, 0, 1<<50))
}

func TestPackRisingOrder(t *testing.T) {
	for _, list := range [][]int{{0, 0}, {1, 0}, {5, 5}, {5, 4}, {5, 7, 7}, {5, 7, 6}, {5, 7, 5}, {impl.MaxNum, impl.MaxNum}, {impl.MaxNum, 0}, {0, 2, 1, 3}} {
		packRising.want(t, list, nil, impl.ErrOrder)
	}
	for _, n := range []int{2, impl.Block, impl.Block + 1, impl.Block + 2, impl.MaxList} {
		for _, place := range []int{1, n / 2, n - 1} {
			list := rising(n, 10, 3)
			list[place] = list[place-1]
			packRising.want(t, list, nil, impl.ErrOrder)
			list[place]++
			wantThere(t, list)
			list[place] -= 2
			packRising.want(t, list, nil, impl.ErrOrder)
		}
	}
}

// A number out of its bounds counts ahead of one that does not rise, wherever
// it stands; a list that is too long counts ahead of both.
func TestPackRisingOrderOfFaults(t *testing.T) {
	for _, list := range [][]int{{5, 5, -1}, {-1, 5, 5}, {0, -1}, {-1, -1}, {7, 6, impl.MaxNum + 1}, {impl.MaxNum + 1, 3}, {math.MaxInt, math.MinInt}, {math.MinInt, math.MaxInt}} {
		packRising.want(t, list, nil, impl.ErrRange)
	}
	falling := rising(impl.MaxList+1, impl.MaxNum, -1)
	packRising.want(t, falling, nil, impl.ErrLong)
	packRising.want(t, falling[:impl.MaxList], nil, impl.ErrOrder)
	falling[impl.MaxList-1] = -1
	packRising.want(t, falling, nil, impl.ErrLong)
	packRising.want(t, falling[:impl.MaxList], nil, impl.ErrRange)
}

// Gaps that PackInts gives, but that lead above MaxNum, are of no rising list.
func TestUnpackRisingRefusesSumsThatAreTooHigh(t *testing.T) {
	for _, gaps := range [][]int{
		{impl.MaxNum, 0}, {0, impl.MaxNum}, {impl.MaxNum, impl.MaxNum}, {1, impl.MaxNum - 1}, {impl.MaxNum - 1, 1}, {impl.MaxNum - 2, 0, 1}, {1 << 61, 1 << 61}, {1 << 61, 1<<61 - 1},
		slices.Repeat([]int{impl.MaxNum}, 3), slices.Repeat([]int{impl.MaxNum}, 4), slices.Repeat([]int{impl.MaxNum}, impl.MaxList), slices.Repeat([]int{1 << 50}, impl.MaxList),
	} {
		b, code := packOf(gaps)
		if code != impl.OK {
			t.Fatalf("the gaps %s: %d", shortList(gaps), code)
		}
		unpackInts.want(t, b, gaps, impl.OK)
		unpackRising.want(t, b, nil, impl.ErrForm)
	}
	for _, gaps := range [][]int{{impl.MaxNum - 1, 0}, {0, impl.MaxNum - 1}, {1 << 61, 1<<61 - 2}, {impl.MaxNum - 2, 0, 0}, slices.Repeat([]int{1<<50 - 1}, impl.MaxList)} {
		b, _ := packOf(gaps)
		list, code := unpackRisingOf(b)
		unpackRising.want(t, b, list, code)
		if code == impl.OK && list[len(list)-1] != impl.MaxNum && len(gaps) < 4 {
			t.Errorf("the gaps %s lead to %d", shortList(gaps), list[len(list)-1])
		}
	}
}
