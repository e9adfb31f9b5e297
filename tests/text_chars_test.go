package tests

import (
	"math"
	"slices"
	"strings"
	"testing"

	"loop.example/g00018/impl"
)

// Numbers that are no character; some would be one if they were cut to 32 bits.
var noCharacters = []int{
	-1, -65, 55296, 55297, 56320, 57342, 57343, 1114112, 1114113, 1 << 31, 1<<32 + 65, -1<<32 + 65,
	1<<32 - 1, math.MinInt, math.MinInt + 65, math.MaxInt,
}

func TestDecodeOrdinary(t *testing.T) {
	wantDecode(t, "", nil, impl.OK)
	wantDecode(t, "Hi 9", []int{72, 105, 32, 57}, impl.OK)
	wantDecode(t, "\x00\x7f", []int{0, 127}, impl.OK)
	wantDecode(t, "\u0080\u07ff\u0800\uffff\U00010000\U0010ffff", []int{128, 2047, 2048, 65535, 65536, 1114111}, impl.OK)
	wantDecode(t, "\ud7ff\ue000", []int{55295, 57344}, impl.OK)
	// The library's stand-in for wrong bytes is a character like any other.
	wantDecode(t, "\ufffd", []int{65533}, impl.OK)
}

func TestDecodeEveryFormOfTwoBytes(t *testing.T) {
	for a := range 256 {
		wantForm(t, string([]byte{byte(a)}))
		for b := range 256 {
			wantForm(t, string([]byte{byte(a), byte(b)}))
		}
	}
}

func TestDecodeFormsAtTheEdges(t *testing.T) {
	edges := []byte{
		0x00, 0x41, 0x7f, 0x80, 0x8f, 0x90, 0x9f, 0xa0, 0xbf, 0xc0, 0xc1, 0xc2, 0xdf, 0xe0, 0xe1,
		0xec, 0xed, 0xee, 0xef, 0xf0, 0xf1, 0xf3, 0xf4, 0xf5, 0xf8, 0xff,
	}
	for _, a := range edges {
		for _, b := range edges {
			for _, c := range edges {
				wantForm(t, string([]byte{a, b, c}))
				for _, d := range edges {
					wantForm(t, string([]byte{a, b, c, d}))
				}
			}
		}
	}
}

// wantForm holds what the three calls that take a text say of its form against the arithmetic.
func wantForm(t *testing.T, s string) {
	t.Helper()
	want, well := formOf(s)
	list, code := impl.Decode(s)
	folded, foldCode := impl.FoldText(s)
	words, breakCode := impl.Break(s)
	if well {
		if code != impl.OK || foldCode != impl.OK || breakCode != impl.OK || !slices.Equal(list, want) {
			t.Fatalf("%q: %v %d %d %d, want %v", s, list, code, foldCode, breakCode, want)
		}
		return
	}
	if code != impl.ErrForm || foldCode != impl.ErrForm || breakCode != impl.ErrForm {
		t.Fatalf("%q: codes %d %d %d, want ErrForm", s, code, foldCode, breakCode)
	}
	if len(list) != 0 || folded != "" || len(words) != 0 {
		t.Fatalf("%q: %v %q %v beside a code", s, list, folded, words)
	}
}

func TestDecodeLongest(t *testing.T) {
	full := strings.Repeat("a", impl.MaxText)
	wantDecode(t, full, slices.Repeat([]int{97}, impl.MaxText), impl.OK)
	wantDecode(t, full+"a", nil, impl.ErrLong)
	wide := strings.Repeat("\U0001f600", impl.MaxText/4)
	wantDecode(t, wide, slices.Repeat([]int{128512}, impl.MaxText/4), impl.OK)
	// A list that comes out has no limit of its own.
	wantDecode(t, full[:impl.MaxList+1], slices.Repeat([]int{97}, impl.MaxList+1), impl.OK)
	// The last byte is looked at, and the length ahead of the form.
	wantDecode(t, full[:impl.MaxText-1]+"\xff", nil, impl.ErrForm)
	wantDecode(t, full[:impl.MaxText-1]+"\xc3", nil, impl.ErrForm)
	wantDecode(t, full+"\xff", nil, impl.ErrLong)
	wantDecode(t, "\xff"+full, nil, impl.ErrLong)
	wantDecode(t, full[:impl.MaxText-1]+"\u00e9", nil, impl.ErrLong)
}

func TestEveryCharacterComesBack(t *testing.T) {
	for r := range 1114112 {
		s, code := impl.Encode([]int{r})
		if r >= 55296 && r <= 57343 {
			if code != impl.ErrBad || s != "" {
				t.Fatalf("Encode of %d: %q %d", r, s, code)
			}
			continue
		}
		if want, well := formOf(s); code != impl.OK || !well || len(want) != 1 || want[0] != r {
			t.Fatalf("Encode of %d: %q %d", r, s, code)
		}
		if list, code := impl.Decode(s); code != impl.OK || len(list) != 1 || list[0] != r {
			t.Fatalf("Decode of %q: %v %d, want %d", s, list, code, r)
		}
	}
}

func TestEncodeGivesBackTexts(t *testing.T) {
	texts := []string{
		"", "a", "\x00", "it's", "\u00e9\u4e2d\U0001f600\x00z", "\ufffd", "a\u0301", strings.Repeat("\u4e2d\x7f", 16384),
		strings.Repeat("x", impl.MaxText), strings.Repeat("\U0010ffff", impl.MaxText/4),
	}
	for _, s := range texts {
		list, code := impl.Decode(s)
		if code != impl.OK {
			t.Errorf("Decode of %s: code %d", short(s), code)
		}
		wantEncode(t, list, s, impl.OK)
	}
}

func TestEncodeNoCharacter(t *testing.T) {
	for _, r := range noCharacters {
		wantEncode(t, []int{r}, "", impl.ErrBad)
		wantEncode(t, []int{97, r, 98}, "", impl.ErrBad)
		wantEncode(t, []int{97, 98, r}, "", impl.ErrBad)
	}
	wantEncode(t, []int{55295, 57344, 0, 1114111}, "\ud7ff\ue000\x00\U0010ffff", impl.OK)
	wantEncode(t, nil, "", impl.OK)
	wantEncode(t, []int{}, "", impl.OK)
}

func TestEncodeLongest(t *testing.T) {
	full := slices.Repeat([]int{97}, impl.MaxText)
	wantEncode(t, full, strings.Repeat("a", impl.MaxText), impl.OK)
	wantEncode(t, slices.Repeat([]int{97}, impl.MaxText+1), "", impl.ErrLong)
	wantEncode(t, full[:impl.MaxList+1], strings.Repeat("a", impl.MaxList+1), impl.OK)
	// Bytes, not characters, bound the text.
	for _, c := range []struct{ r, size int }{{233, 2}, {20013, 3}, {128512, 4}} {
		list := slices.Repeat([]int{c.r}, impl.MaxText/c.size)
		list = append(list, slices.Repeat([]int{97}, impl.MaxText-len(list)*c.size)...)
		want := strings.Repeat(string(rune(c.r)), impl.MaxText/c.size) + strings.Repeat("a", impl.MaxText%c.size)
		wantEncode(t, list, want, impl.OK)
		wantEncode(t, append(list, 98), "", impl.ErrLong)
	}
	wantEncode(t, slices.Repeat([]int{128512}, impl.MaxText), "", impl.ErrLong)
}

func TestEncodeTwoFaults(t *testing.T) {
	for _, r := range noCharacters {
		// Too many elements are told ahead of one that is no character.
		list := slices.Repeat([]int{97}, impl.MaxText+1)
		list[0] = r
		wantEncode(t, list, "", impl.ErrLong)
		list[0], list[impl.MaxText] = 97, r
		wantEncode(t, list, "", impl.ErrLong)
		// One that is no character is told ahead of too many bytes, wherever it stands.
		list = slices.Repeat([]int{128512}, impl.MaxText)
		list[impl.MaxText-1] = r
		wantEncode(t, list, "", impl.ErrBad)
		list[impl.MaxText-1], list[0] = 128512, r
		wantEncode(t, list, "", impl.ErrBad)
	}
}
