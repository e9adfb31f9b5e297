package tests

import (
	"fmt"
	"math"
	"math/rand"
	"slices"
	"strings"
	"testing"

	"loop.example/g00018/impl"
)

type founds = []impl.Found

func TestMergeHitsInWritten(t *testing.T) {
	a, b, c := last("a", 9), last("b", 9), last("c", 5)
	for _, row := range []struct {
		lists []founds
		size  int
		want  string
	}{
		{nil, 5, ""}, {[]founds{}, 0, ""}, {[]founds{nil}, 5, ""}, {[]founds{nil, {}, nil}, 5, ""},
		{[]founds{{a, b, c}}, 5, "a b c"}, {[]founds{{a, b, c}}, 3, "a b c"}, {[]founds{{a, b, c}}, 2, "a b"}, {[]founds{{a, b, c}}, 1, "a"}, {[]founds{{a, b, c}}, 0, ""},
		{[]founds{{b, c}, {a}}, 5, "a b c"}, {[]founds{{c}, {b}, {a}}, 5, "a b c"}, {[]founds{{c}, {b}, {a}}, 2, "a b"}, {[]founds{{a, c}, {b}}, 1, "a"}, {[]founds{{a}, {b, c}}, 1000, "a b c"},
		{[]founds{nil, {b}, {}, {a, c}, nil}, 5, "a b c"}, {[]founds{{b}, nil, {a, c}}, 2, "a b"},
		{[]founds{{a}, {a}, {a}}, 2, "a a"}, {[]founds{{a, a, c}, {a, b}}, 9, "a a a b c"}, {[]founds{{last("z", 9)}, {last("a", 8)}}, 9, "z a"}, {[]founds{{last("a", -3)}, {last("b", -2)}}, 9, "b a"},
	} {
		told, code := impl.MergeHits(row.lists, nil, row.size)
		if code != impl.OK || toldIds(told) != row.want {
			t.Errorf("MergeHits of %s, %d: %v, code %d, want %s", shortFounds(row.lists), row.size, told, code, row.want)
		}
		wantSameMerged(t, row.lists, nil, row.size)
	}
}

func TestMergeHitsByKeys(t *testing.T) {
	one := []founds{{last("d", 1, -5), last("a", 1, 0), last("e", 1, 7), last("x", 1, noKey)}, {last("c", 1, 0), last("b", 1, 3), last("w", 1, noKey)}}
	wantMerged(t, one, up("n"), 9, founds{one[0][0], one[0][1], one[1][0], one[1][1], one[0][2], one[1][2], one[0][3]}, impl.OK)
	// What has no key stands behind all others, also where the greatest is first.
	two := []founds{{last("e", 1, 7), last("a", 1, 0), last("d", 1, -5), last("x", 1, noKey)}, {last("b", 1, 3), last("c", 1, 0), last("w", 1, noKey)}}
	wantMerged(t, two, down("n"), 9, founds{two[0][0], two[1][0], two[0][1], two[1][1], two[0][2], two[1][2], two[0][3]}, impl.OK)
	// The first key counts ahead of the second, both ahead of the score and the id.
	keys := append(up("n"), down("year")...)
	three := []founds{{last("b", 1, 0, 5), last("a", 9, 0, 4), last("a", 9, 1, 9)}, {last("z", 0, -1, noKey), last("c", 2, 0, 5), last("d", 2, 0, 5), last("a", 9, 0, noKey)}}
	wantMerged(t, three, keys, 9, founds{three[1][0], three[1][1], three[1][2], three[0][0], three[0][1], three[1][3], three[0][2]}, impl.OK)
	for _, lists := range [][]founds{one, two, three} {
		for size := range 9 {
			for _, keys := range [][]impl.SortKey{up("n"), down("n"), keys} {
				wantSameMerged(t, lists, keys, size)
			}
		}
	}
	// Fields need not be those of anything, nor differ.
	wantMerged(t, two[:1], []impl.SortKey{{Field: "\xff", Down: true}}, 1, two[0][:1], impl.OK)
	wantMerged(t, two[:1], []impl.SortKey{{Down: true}}, 2, two[0][:2], impl.OK)
}

// NoKey is behind every other number, whatever that is.
func TestMergeHitsOfExtremeNumbers(t *testing.T) {
	numbers := []int{math.MinInt, math.MinInt + 1, -noKey, -1, 0, 1, noKey - 1, noKey + 1, math.MaxInt - 1, math.MaxInt}
	for _, keys := range [][]impl.SortKey{up("n"), down("n")} {
		for _, n := range numbers {
			for _, other := range append([]int{noKey}, numbers...) {
				f, g := last("a", 1, n), last("b", 1, other)
				wantSameMerged(t, []founds{{f}, {g}}, keys, 2)
				wantSameMerged(t, []founds{{g}, {f}}, keys, 2)
				wantSameMerged(t, []founds{{f, g}}, keys, 2)
				wantSameMerged(t, []founds{{g, f}}, keys, 2)
			}
			wantMerged(t, []founds{{last("a", 9, noKey)}, {last("b", 1, n)}}, keys, 1, founds{last("b", 1, n)}, impl.OK)
		}
	}
	for _, score := range numbers {
		for _, other := range numbers {
			f, g := last("a", score), last("b", other)
			wantSameMerged(t, []founds{{f}, {g}}, nil, 2)
			wantSameMerged(t, []founds{{f, g}}, nil, 2)
		}
	}
	wantMerged(t, []founds{{last("a", math.MinInt)}, {last("b", math.MaxInt)}}, nil, 2, founds{last("b", math.MaxInt), last("a", math.MinInt)}, impl.OK)
}

// Hits of which none stands ahead of the other have the same Id, score and keys: what
// can be seen of them is how many are told, and where.
func TestMergeHitsOfEqualHits(t *testing.T) {
	for _, ids := range []string{"a", "aa", "aab", "abbb"} {
		var list founds
		for _, r := range ids {
			list = append(list, last(string(r), 4, 7))
		}
		for parts := range 4 {
			lists := slices.Repeat([]founds{list}, parts+1)
			for size := range 4*parts + 2 {
				told := wantSameMerged(t, lists, up("n"), size)
				if len(told) != min(size, len(list)*len(lists)) {
					t.Errorf("%d of %d are told", len(told), len(list)*len(lists))
				}
			}
		}
	}
	alike := []founds{{last("a", 1, 5), last("a", 1, 5)}, {last("a", 1, 5)}}
	wantMerged(t, alike, up("n"), 3, founds{last("a", 1, 5), last("a", 1, 5), last("a", 1, 5)}, impl.OK)
	wantMerged(t, alike, down("n"), 2, founds{last("a", 1, 5), last("a", 1, 5)}, impl.OK)
}

func TestMergeHitsOfEverySmallSplit(t *testing.T) {
	all := inOrder(founds{last("a", 2), last("b", 2), last("b", 2), last("c", 1), last("d", 1), last("a", 1)}, nil)
	for code := range 729 {
		lists := make([]founds, 3)
		for i, rest := 0, code; i < len(all); i, rest = i+1, rest/3 {
			lists[rest%3] = append(lists[rest%3], all[i])
		}
		for size := range len(all) + 2 {
			wantMerged(t, lists, nil, size, all[:min(size, len(all))], impl.OK)
		}
	}
}

func TestMergeHitsOfRandomLists(t *testing.T) {
	source := rand.New(rand.NewSource(121))
	for range 800 {
		keys := randomKeys(source)
		lists := make([]founds, source.Intn(6))
		total := 0
		for i := range lists {
			lists[i] = randomHits(source, source.Intn(8), keys)
			total += len(lists[i])
		}
		for _, size := range []int{0, 1, total / 2, total, total + 1, 1000} {
			if told := wantSameMerged(t, lists, keys, size); len(told) != min(size, total) {
				t.Errorf("%d of %d are told, want %d", len(told), total, size)
			}
		}
	}
}

func TestMergeHitsLimitOnLists(t *testing.T) {
	lists := make([]founds, 16)
	for i := range lists {
		lists[i] = founds{last(fmt.Sprintf("d%02d", 16-i), 3)}
	}
	if told := wantSameMerged(t, lists, nil, 1000); len(told) != 16 || told[0].Id != "d01" || told[15].Id != "d16" {
		t.Errorf("%v", told)
	}
	wantMergeCode(t, append(lists, nil), nil, 5, impl.ErrMany)
	wantMergeCode(t, make([]founds, 16), nil, 5, impl.OK)
	wantMergeCode(t, make([]founds, 17), nil, 5, impl.ErrMany)
	wantMergeCode(t, make([]founds, 4097), nil, 5, impl.ErrMany)
	wantMergeCode(t, make([]founds, 1<<20), nil, 5, impl.ErrMany)
}

func TestMergeHitsLimitOnAList(t *testing.T) {
	most, more := risingHits(4096, 0), risingHits(4097, 0)
	for at := range 16 {
		lists := make([]founds, 16)
		lists[at] = most
		wantMerged(t, lists, nil, 1000, most[:1000], impl.OK)
		lists[at] = more
		wantMergeCode(t, lists, nil, 1000, impl.ErrLong)
	}
	full := slices.Repeat([]founds{most}, 16)
	if told := wantSameMerged(t, full, nil, 1000); len(told) != 1000 || told[999].Id != "d00062" {
		t.Errorf("%d hits, the last %v", len(told), told[999])
	}
	wantMergeCode(t, slices.Repeat([]founds{more}, 16), nil, 1000, impl.ErrLong)
}

func TestMergeHitsLimitOnSize(t *testing.T) {
	lists := []founds{risingHits(700, 0), risingHits(700, 0)}
	for size, code := range map[int]int{-1: impl.ErrRange, 0: impl.OK, 1: impl.OK, 999: impl.OK, 1000: impl.OK, 1001: impl.ErrRange, math.MinInt: impl.ErrRange, math.MaxInt: impl.ErrRange} {
		wantMergeCode(t, lists, nil, size, code)
		wantMergeCode(t, nil, nil, size, code)
	}
}

func TestMergeHitsLimitOnKeys(t *testing.T) {
	for n, code := range map[int]int{0: impl.OK, 1: impl.OK, 4: impl.OK, 5: impl.ErrRange, 4096: impl.ErrRange, 4097: impl.ErrRange} {
		keys := make([]impl.SortKey, n)
		wantMergeCode(t, []founds{risingHits(3, n), risingHits(2, n)}, keys, 5, code)
		wantMergeCode(t, []founds{nil}, keys, 5, code)
		wantMergeCode(t, nil, keys, 0, code)
	}
}

// A hit with one key fewer or more, wherever it stands.
func TestMergeHitsOfUnlikeKeys(t *testing.T) {
	for n := range 5 {
		keys := make([]impl.SortKey, n)
		for at := range 6 {
			for _, other := range []int{n - 1, n + 1, 0, 9} {
				if other < 0 || other == n {
					continue
				}
				lists := []founds{risingHits(3, n), nil, risingHits(3, n)}
				lists[at/3*2][at%3].Keys = make([]int, other)
				wantMergeCode(t, lists, keys, 5, impl.ErrRange)
			}
		}
	}
	// A key that is there counts, also if it is NoKey.
	wantMergeCode(t, []founds{{last("a", 1)}}, up("n"), 5, impl.ErrRange)
	wantMergeCode(t, []founds{{last("a", 1, noKey)}}, up("n"), 5, impl.OK)
	wantMergeCode(t, []founds{{last("a", 1, noKey)}}, nil, 5, impl.ErrRange)
}

// Lists that do not stand in order, by a key, the score or the id, each at its place.
func TestMergeHitsOfUnsortedLists(t *testing.T) {
	for _, row := range []struct {
		first, second impl.Found
		keys          []impl.SortKey
	}{
		{last("b", 1), last("a", 1), nil}, {last("a", 1), last("b", 2), nil}, {last("aa", 1), last("a", 1), nil}, {last("a", 1), last("", 1), nil}, {last("\xff", 1), last("\x00", 1), nil},
		{last("a", 1, 2), last("b", 1, 1), up("n")}, {last("a", 1, 1), last("b", 1, 2), down("n")}, {last("a", 9, 2), last("b", 9, 1), up("n")},
		{last("a", 1, noKey), last("b", 1, 1), up("n")}, {last("a", 1, noKey), last("b", 1, 1), down("n")}, {last("a", 1, noKey), last("b", 1, noKey+1), down("n")},
		{last("b", 1, noKey), last("a", 1, noKey), up("n")}, {last("a", 1, noKey), last("b", 2, noKey), down("n")},
		{last("a", 1, 5, 2), last("b", 1, 5, 1), up("n", "year")}, {last("a", 1, 5, 2, 0), last("b", 1, 5, 2, 1), down("n", "n", "n")}, {last("a", 1, 1, 1, 1, 1), last("b", 2, 1, 1, 1, 1), up("a", "b", "c", "d")},
	} {
		for _, size := range []int{0, 1, 5} {
			wantMergeCode(t, []founds{{row.first, row.second}}, row.keys, size, impl.ErrOrder)
			wantMergeCode(t, []founds{{row.second, row.first}}, row.keys, size, impl.OK)
			wantMergeCode(t, []founds{{row.first}, {row.second}}, row.keys, size, impl.OK)
			wantMergeCode(t, []founds{nil, {row.second}, {row.second, row.first, row.second}}, row.keys, size, impl.ErrOrder)
			wantMergeCode(t, []founds{{row.second, row.second, row.first, row.first}, {row.first}}, row.keys, size, impl.OK)
		}
	}
	// The last two of a great list.
	list := risingHits(4096, 0)
	list[4095].Id = "d"
	wantMergeCode(t, []founds{risingHits(9, 0), list}, nil, 1, impl.ErrOrder)
}

// Ids may be any texts.
func TestMergeHitsOfStrangeIds(t *testing.T) {
	long := strings.Repeat("x", impl.MaxText+1)
	lists := []founds{{last("", 1), last("\xff", 1)}, {last("a b", 1), last(long, 1)}}
	wantMerged(t, lists, nil, 9, founds{last("", 1), last("a b", 1), last(long, 1), last("\xff", 1)}, impl.OK)
}

// A mergeAsk is all that is handed in to MergeHits.
type mergeAsk struct {
	lists []founds
	keys  []impl.SortKey
	size  int
}

// Each fault alone, each two, and all from one on: the first one counts.
func TestMergeHitsFaultsInOrder(t *testing.T) {
	faults := []struct {
		code  int
		apply func(a *mergeAsk)
	}{
		{impl.ErrMany, func(a *mergeAsk) { a.lists = append(a.lists, make([]founds, 14)...) }},
		{impl.ErrLong, func(a *mergeAsk) { a.lists[2] = risingHits(4097, 1) }},
		{impl.ErrRange, func(a *mergeAsk) { a.size = -1 }},
		{impl.ErrRange, func(a *mergeAsk) { a.lists[0] = append(a.lists[0], last("z", 0)) }},
		{impl.ErrRange, func(a *mergeAsk) { a.keys = up("a", "b", "c", "d", "e") }},
		{impl.ErrRange, func(a *mergeAsk) { a.size = 1001 }},
		{impl.ErrOrder, func(a *mergeAsk) { a.lists[1] = founds{last("b", 1, 1), last("a", 1, 1)} }},
	}
	try := func(code int, picked ...int) {
		a := mergeAsk{[]founds{risingHits(3, 1), risingHits(2, 1), nil}, up("n"), 5}
		for _, i := range picked {
			faults[i].apply(&a)
		}
		wantMergeCode(t, a.lists, a.keys, a.size, code)
	}
	try(impl.OK)
	var rest []int
	for i := len(faults) - 1; i >= 0; i-- {
		rest = append(rest, i)
		try(faults[i].code, i)
		for j := i + 1; j < len(faults); j++ {
			try(faults[i].code, i, j)
		}
		try(faults[i].code, rest...)
	}
}
