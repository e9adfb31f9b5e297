package tests

import (
	"bytes"
	"fmt"
	"math/big"
	"slices"
	"testing"

	"loop.example/g00018/impl"
)

// What the document says of packed numbers, told a second time: numbers by
// division, blocks as one great number, and bytes are right if they are what
// the list that is read from them gives.

const (
	greatest  = 1<<62 - 1
	mostBytes = 1 << 20
)

func putOf(v int) ([]byte, int) {
	if v < 0 || v > greatest {
		return nil, impl.ErrRange
	}
	var b []byte
	for v >= 128 {
		b = append(b, byte(128+v%128))
		v /= 128
	}
	return append(b, byte(v)), impl.OK
}

func getOf(b []byte, at int) (int, int, int) {
	if len(b) > mostBytes {
		return 0, 0, impl.ErrLong
	}
	if at < 0 || at > len(b) {
		return 0, 0, impl.ErrBad
	}
	sum, place := new(big.Int), big.NewInt(1)
	for i := at; i < len(b) && i < at+12; i++ {
		sum.Add(sum, new(big.Int).Mul(place, big.NewInt(int64(b[i]%128))))
		place.Mul(place, big.NewInt(128))
		if sum.Cmp(big.NewInt(greatest)) > 0 {
			break
		}
		if again, _ := putOf(int(sum.Int64())); bytes.Equal(again, b[at:i+1]) {
			return int(sum.Int64()), i + 1, impl.OK
		}
	}
	return 0, 0, impl.ErrForm
}

func packOf(list []int) ([]byte, int) {
	if len(list) > 4096 {
		return nil, impl.ErrLong
	}
	b, _ := putOf(len(list))
	for len(list) > 0 {
		part := list[:min(128, len(list))]
		list = list[len(part):]
		if slices.Min(part) < 0 || slices.Max(part) > greatest {
			return nil, impl.ErrRange
		}
		b = append(b, blockBytes(part)...)
	}
	return b, impl.OK
}

// blockBytes puts the numbers together to one, the last one highest.
func blockBytes(part []int) []byte {
	width := len(fmt.Sprintf("%b", slices.Max(part)))
	if slices.Max(part) == 0 {
		width = 0
	}
	sum := new(big.Int)
	for _, v := range slices.Backward(part) {
		sum.Lsh(sum, uint(width))
		sum.Add(sum, big.NewInt(int64(v)))
	}
	laid := sum.FillBytes(make([]byte, (width*len(part)+7)/8))
	slices.Reverse(laid)
	return append([]byte{byte(width)}, laid...)
}

func unpackOf(b []byte) ([]int, int) {
	if len(b) > mostBytes {
		return nil, impl.ErrLong
	}
	count, at, code := getOf(b, 0)
	if code != impl.OK || count > 4096 {
		return nil, impl.ErrForm
	}
	var list []int
	rest := b[at:]
	for len(list) < count {
		n := min(128, count-len(list))
		if len(rest) == 0 || rest[0] > 62 || len(rest) < 1+(int(rest[0])*n+7)/8 {
			return nil, impl.ErrForm
		}
		width := int(rest[0])
		for i := range n {
			v := 0
			for bit := range width {
				place := i*width + bit
				v += int(rest[1+place/8]) >> (place % 8) % 2 << bit
			}
			list = append(list, v)
		}
		rest = rest[1+(width*n+7)/8:]
	}
	if again, code := packOf(list); code != impl.OK || !bytes.Equal(again, b) {
		return nil, impl.ErrForm
	}
	return list, impl.OK
}

func packRisingOf(list []int) ([]byte, int) {
	if _, code := packOf(list); code != impl.OK {
		return nil, code
	}
	gaps := slices.Clone(list)
	for i := 1; i < len(list); i++ {
		if list[i] <= list[i-1] {
			return nil, impl.ErrOrder
		}
		gaps[i] = list[i] - list[i-1] - 1
	}
	return packOf(gaps)
}

func unpackRisingOf(b []byte) ([]int, int) {
	gaps, code := unpackOf(b)
	sum := big.NewInt(-1)
	var list []int
	for _, gap := range gaps {
		sum.Add(sum, big.NewInt(int64(gap)))
		sum.Add(sum, big.NewInt(1))
		if sum.Cmp(big.NewInt(greatest)) > 0 {
			return nil, impl.ErrForm
		}
		list = append(list, int(sum.Int64()))
	}
	return list, code
}

func wantPut(t *testing.T, v int, want []byte, wantCode int) {
	t.Helper()
	if b, code := impl.PutInt(v); code != wantCode || !bytes.Equal(b, want) {
		t.Errorf("PutInt of %d: %v, code %d, want %v, code %d", v, b, code, want, wantCode)
	}
}

func wantGet(t *testing.T, b []byte, at, want, wantNext, wantCode int) {
	t.Helper()
	if v, next, code := impl.GetInt(b, at); v != want || next != wantNext || code != wantCode {
		t.Errorf("GetInt of %s at %d: %d, next %d, code %d, want %d, next %d, code %d", shortBytes(b), at, v, next, code, want, wantNext, wantCode)
	}
}

// A packing is PackInts or PackRising.
type packing struct {
	name string
	call func([]int) ([]byte, int)
}

// An unpacking is UnpackInts or UnpackRising.
type unpacking struct {
	name string
	call func([]byte) ([]int, int)
}

var (
	packInts     = packing{"PackInts", impl.PackInts}
	packRising   = packing{"PackRising", impl.PackRising}
	unpackInts   = unpacking{"UnpackInts", impl.UnpackInts}
	unpackRising = unpacking{"UnpackRising", impl.UnpackRising}
)

func (p packing) want(t *testing.T, list []int, want []byte, wantCode int) {
	t.Helper()
	if b, code := p.call(list); code != wantCode || !bytes.Equal(b, want) {
		t.Errorf("%s of %s: %s, code %d, want %s, code %d", p.name, shortList(list), shortBytes(b), code, shortBytes(want), wantCode)
	}
}

func (u unpacking) want(t *testing.T, b []byte, want []int, wantCode int) {
	t.Helper()
	if list, code := u.call(b); code != wantCode || !slices.Equal(list, want) {
		t.Errorf("%s of %s: %s, code %d, want %s, code %d", u.name, shortBytes(b), shortList(list), code, shortList(want), wantCode)
	}
}

// wantThere holds a list against the document's words, there and back.
func wantThere(t *testing.T, list []int) {
	t.Helper()
	b, code := packOf(list)
	packInts.want(t, list, b, code)
	if code == impl.OK {
		unpackInts.want(t, b, list, impl.OK)
	}
	b, code = packRisingOf(list)
	packRising.want(t, list, b, code)
	if code == impl.OK {
		unpackRising.want(t, b, list, impl.OK)
	}
}

// wantBytes holds bytes, right or wrong, against the document's words.
func wantBytes(t *testing.T, b []byte) {
	t.Helper()
	list, code := unpackOf(b)
	unpackInts.want(t, b, list, code)
	list, code = unpackRisingOf(b)
	unpackRising.want(t, b, list, code)
}

// wantRefused is for bytes that are neither PackInts nor PackRising of any list.
func wantRefused(t *testing.T, b []byte) {
	t.Helper()
	unpackInts.want(t, b, nil, impl.ErrForm)
	unpackRising.want(t, b, nil, impl.ErrForm)
}

// rising tells n numbers from first on, each step above the one ahead.
func rising(n, first, step int) []int {
	list := make([]int, n)
	for i := range list {
		list[i] = first + i*step
	}
	return list
}
