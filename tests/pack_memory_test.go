package tests

import (
	"bytes"
	"slices"
	"testing"

	"loop.example/g00018/impl"
)

func memoryLists() [][]int {
	return [][]int{
		nil, {0}, {1}, {1, 2, 3}, {5, 7, 8}, {3, 2}, {-1, 5}, {7, impl.MaxNum + 1}, {impl.MaxNum}, make([]int, impl.Block+1), rising(impl.Block, 1, 1), rising(impl.MaxList, 4, 9),
		rising(impl.MaxList+1, 0, 1),
	}
}

func TestPackLeavesItsList(t *testing.T) {
	for _, list := range memoryLists() {
		whole := append(slices.Clone(list), -7, -8, -9)
		before := slices.Clone(whole)
		impl.PackInts(whole[:len(list)])
		impl.PackRising(whole[:len(list)])
		if !slices.Equal(whole, before) {
			t.Errorf("packing wrote into %s", shortList(list))
		}
	}
}

// memoryBytes are packed lists, and bytes that are none.
func memoryBytes() [][]byte {
	list := [][]byte{nil, {0}, {128}, {3, 2, 121}, {1, 63, 1}, {0, 0}, make([]byte, impl.MaxBytes), make([]byte, impl.MaxBytes+1)}
	for _, numbers := range memoryLists() {
		for _, pack := range []packing{packInts, packRising} {
			if b, code := pack.call(numbers); code == impl.OK {
				list = append(list, b)
			}
		}
	}
	return list
}

func TestUnpackLeavesItsBytes(t *testing.T) {
	for _, b := range memoryBytes() {
		whole := append(slices.Clone(b), 1, 2, 3)
		before := slices.Clone(whole)
		impl.UnpackInts(whole[:len(b)])
		impl.UnpackRising(whole[:len(b)])
		impl.GetInt(whole[:len(b)], len(b)/2)
		impl.Sum32(whole[:len(b)])
		if !bytes.Equal(whole, before) {
			t.Errorf("unpacking wrote into %s", shortBytes(b))
		}
	}
}

func TestPackAnswersNewMemory(t *testing.T) {
	for _, v := range edgeNumbers() {
		first, _ := impl.PutInt(v)
		second, _ := impl.PutInt(v)
		wantApart(t, first, second, 77, "PutInt")
	}
	for _, pack := range []packing{packInts, packRising} {
		for _, list := range memoryLists() {
			first, _ := pack.call(list)
			second, _ := pack.call(list)
			wantApart(t, first, second, 77, pack.name+" of "+shortList(list))
		}
	}
	for _, unpack := range []unpacking{unpackInts, unpackRising} {
		for _, b := range memoryBytes() {
			first, _ := unpack.call(b)
			second, _ := unpack.call(b)
			wantApart(t, first, second, -1, unpack.name+" of "+shortBytes(b))
		}
	}
}
