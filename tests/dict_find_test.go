package tests

import (
	"strings"
	"testing"

	"loop.example/g00018/impl"
)

func TestDictFindInWritten(t *testing.T) {
	d := wantBuilt(t, []string{"car", "card", "cat", "dog"})
	for n, term := range []string{"car", "card", "cat", "dog"} {
		wantFind(t, d, term, n, impl.OK)
		wantTerm(t, d, n, term, impl.OK)
	}
	for _, term := range []string{"", "c", "ca", "cards", "cad", "do", "dogs", "Car", "x", "car\x00", "\x00car"} {
		wantFind(t, d, term, 0, impl.ErrMissing)
	}
	wantRange(t, d, "", 0, 4, impl.OK)
	wantRange(t, d, "c", 0, 3, impl.OK)
	wantRange(t, d, "ca", 0, 3, impl.OK)
	wantRange(t, d, "car", 0, 2, impl.OK)
	wantRange(t, d, "card", 1, 1, impl.OK)
	wantRange(t, d, "cat", 2, 1, impl.OK)
	wantRange(t, d, "d", 3, 1, impl.OK)
	for _, prefix := range []string{"b", "cb", "cards", "e", "\x00", "\xff", "doge"} {
		wantRange(t, d, prefix, 0, 0, impl.ErrMissing)
	}
}

// No term is there, so none begins with the empty prefix either.
func TestDictWithoutTerms(t *testing.T) {
	d := wantBuilt(t, nil)
	for _, text := range []string{"", "a", "\x00"} {
		wantFind(t, d, text, 0, impl.ErrMissing)
		wantRange(t, d, text, 0, 0, impl.ErrMissing)
	}
	for _, n := range []int{-1, 0, 1} {
		wantTerm(t, d, n, "", impl.ErrMissing)
	}
	wantThrough(t, d)
}

func TestDictAskedWithLongTexts(t *testing.T) {
	for _, terms := range [][]string{nil, {"a"}, {strings.Repeat("a", impl.MaxTerm)}} {
		d := wantBuilt(t, terms)
		for _, size := range []int{impl.MaxTerm + 1, impl.MaxText} {
			wantFind(t, d, strings.Repeat("a", size), 0, impl.ErrMissing)
			wantRange(t, d, strings.Repeat("a", size), 0, 0, impl.ErrMissing)
		}
		wantFind(t, d, strings.Repeat("a", impl.MaxText+1), 0, impl.ErrLong)
		wantRange(t, d, strings.Repeat("a", impl.MaxText+1), 0, 0, impl.ErrLong)
	}
}

// Every byte as an arc of the first state, and two of each behind it.
func TestDictOfEveryByte(t *testing.T) {
	var terms []string
	for label := range 256 {
		head := string([]byte{byte(label)})
		terms = append(terms, head, head+"\x00", head+"\xff")
	}
	d := wantBuilt(t, terms)
	wantThrough(t, d)
	for n, term := range terms {
		wantFind(t, d, term, n, impl.OK)
		wantTerm(t, d, n, term, impl.OK)
		if n%3 == 0 {
			wantRange(t, d, term, n, 3, impl.OK)
			wantFind(t, d, term+"\x01", 0, impl.ErrMissing)
		}
	}
}
