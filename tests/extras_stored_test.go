package tests

import (
	"fmt"
	"math/rand"
	"slices"
	"strings"
	"testing"

	"loop.example/g00018/impl"
)

func TestPercolateOfEachKind(t *testing.T) {
	list := stored(t,
		"term", "cat", "other-term", "dog", "word", "w:red", "other-word", "w:blue", "number", "n:5", "other-number", "n:6",
		"phrase", `"a cat"`, "other-phrase", `"cat a"`, "near-phrase", `"a sat"~1`, "prefix", "ca*", "other-prefix", "da*", "wild", `~"*a?"`, "other-wild", `~"?"^2 w:~"b*"`,
		"fuzzy", "kat~", "other-fuzzy", "dog~", "range", "n:[1 9]", "other-range", "n:[6 9]", "all", "*", "not", "-dog", "other-not", "-cat", "bool", "+cat -dog", "other-bool", "+cat +dog",
		"least", "(cat w:red dog)@2", "other-least", "(cat w:blue dog)@2", "deep", "-(-(+cat))", "other-deep", "-(-(+dog))", "none", `""`,
	)
	// The wild one of a single sign finds the word "a".
	want := "all bool deep fuzzy least near-phrase not number other-wild phrase prefix range term wild word"
	d := docWith("x", numbersIn("n", 5), textsIn("t", "a cat sat"), textsIn("w", "red"))
	wantFinders(t, small(), list, d, want)
	slices.Reverse(list)
	wantFinders(t, small(), list, d, want)
	wantFinders(t, small(), list, docWith("x"), "all not other-not")
	wantFinders(t, small(), list, docWith("x", textsIn("t", "dog")), "all other-deep other-fuzzy other-not other-term")
	// Where no text is near, and each query alone.
	for _, one := range list {
		wantSamePercolate(t, small(), []impl.Stored{one}, d)
	}
}

// Ids rise byte by byte, whatever the order in which they were stored.
func TestPercolateTellsIdsRising(t *testing.T) {
	var list []impl.Stored
	ids := []string{"!", "0", "10", "9", "A", "Z", "a", "aa", "ab", "b", "z", "~", strings.Repeat("~", 30)}
	source := rand.New(rand.NewSource(43))
	for _, at := range source.Perm(len(ids)) {
		list = append(list, stored(t, ids[at], "*")...)
	}
	wantFinders(t, small(), list, docWith("x"), strings.Join(ids, " "))
	// A stored query may have the document's Id.
	wantFinders(t, small(), stored(t, "x", "cat", "y", "*"), docWith("x", textsIn("t", "cat")), "x y")
}

func TestPercolateOfNothing(t *testing.T) {
	for _, d := range append(hutch(), docWith("z")) {
		wantPercolate(t, small(), nil, d, nil, impl.OK)
		wantPercolate(t, small(), []impl.Stored{}, d, nil, impl.OK)
		wantPercolate(t, small(), stored(t, "q", "-*"), d, nil, impl.OK)
	}
}

// As many queries as are kept, and one more.
func TestPercolateOfManyQueries(t *testing.T) {
	var list []impl.Stored
	var want []string
	for i := range 257 {
		list = append(list, stored(t, fmt.Sprintf("q%03d", 256-i), fmt.Sprintf("n:[%d *]", i))...)
	}
	for i := range 256 {
		if 255-i <= 100 {
			want = append(want, fmt.Sprintf("q%03d", i+1))
		}
	}
	d := docWith("x", numbersIn("n", 100))
	wantPercolate(t, small(), list[:256], d, want, impl.OK)
	wantSamePercolate(t, small(), list[:256], d)
	wantPercolate(t, small(), list, d, nil, impl.ErrMany)
	wantPercolate(t, small(), make([]impl.Stored, 1<<18), d, nil, impl.ErrMany)
	wantPercolate(t, impl.Schema{}, make([]impl.Stored, 257), impl.Doc{}, nil, impl.ErrMany)
	wantPercolate(t, impl.Schema{}, make([]impl.Stored, 256), impl.Doc{}, nil, impl.ErrBad)
}

func TestPercolateOfRandomQueries(t *testing.T) {
	source := rand.New(rand.NewSource(44))
	told, left := 0, 0
	for range 150 {
		list := randomStored(source, 12)
		for range 3 {
			d := randomSceneDoc(source, "d")
			wantSamePercolate(t, scene(), list, d)
			ids, _ := impl.Percolate(scene(), list, d)
			told += len(ids)
			left += len(list) - len(ids)
		}
	}
	if told < 300 || left < 300 {
		t.Errorf("%d are told, %d are not", told, left)
	}
}
