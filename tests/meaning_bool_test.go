package tests

import (
	"fmt"
	"testing"

	"loop.example/g00018/impl"
)

// subsets are documents for each set of these numbers, named by what they have.
func subsets(numbers ...int) []impl.Doc {
	var docs []impl.Doc
	for set := range 1 << len(numbers) {
		id := "d"
		var list []int
		for i, n := range numbers {
			if set>>i&1 == 1 {
				id += fmt.Sprint(n)
				list = append(list, n)
			}
		}
		if list == nil {
			docs = append(docs, docWith(id))
		} else {
			docs = append(docs, docWith(id, numbersIn("n", list...)))
		}
	}
	return docs
}

func numberLeaf(n int) branch {
	return leaf(impl.Node{Kind: impl.QTerm, Field: "n", Text: fmt.Sprint(n)}).boosted(n)
}

func TestMeaningOfBoolsWritten(t *testing.T) {
	docs := subsets(1, 2, 3)
	for text, want := range map[string]string{
		"(n:1)": "d1 d12 d123 d13", "(n:1 n:2)": "d1 d12 d123 d13 d2 d23", "(n:1 n:2)@1": "d1 d12 d123 d13 d2 d23", "(n:1 n:2)@2": "d12 d123", "(n:1 n:2)@3": "", "(n:1 n:2)@64": "",
		"(n:1 n:2 n:3)@2": "d12 d123 d13 d23", "(n:1 n:2 n:3)@3": "d123", "(n:1 n:2 n:3)@4": "", "(+n:1)": "d1 d12 d123 d13", "(+n:1 +n:2)": "d12 d123", "(+n:1 n:2)": "d1 d12 d123 d13", "(+n:1 n:2)@1": "d12 d123", "(+n:1 n:2)@2": "", "(+n:1)@1": "",
		"(-n:1)": "d d2 d23 d3", "(-n:1 -n:2)": "d d3", "(-n:1)@1": "", "(-n:1 -n:2 -n:3)": "d", "(n:1 -n:2)": "d1 d13", "(n:1 -n:2)@1": "d1 d13", "(n:1 -n:2)@2": "", "(+n:1 -n:2)": "d1 d13", "(+n:1 -n:1)": "", "(n:1 -n:1)": "",
		"(+n:1 n:2 n:3)@1": "d12 d123 d13", "(+n:1 n:2 n:3)@2": "d123", "(+n:1 n:2 -n:3)": "d1 d12", "(+n:1 n:2 -n:3)@1": "d12", "(n:1 n:1)@2": "d1 d12 d123 d13", "(n:1 n:1 n:1)@2": "d1 d12 d123 d13",
		"-(-n:1)": "d1 d12 d123 d13", "-(n:1 n:2)": "d d3", "-(n:1 n:2)@2": "d d1 d13 d2 d23 d3", "+(n:1 n:2) +(n:2 n:3)": "d12 d123 d13 d2 d23", "(n:1 (n:2 +n:3))@2": "d123 d13", "(-(-(-n:1)))": "d d2 d23 d3", "-*": "", "-n:4": "d d1 d12 d123 d13 d2 d23 d3",
		"n:4": "", "n:4 *": "d d1 d12 d123 d13 d2 d23 d3", "+n:4 *": "", "(+* -n:3 n:1 n:2)@1": "d1 d12 d2",
	} {
		wantTextIds(t, small(), docs, text, want)
	}
}

// All queries of up to three kids, of each role and with each Min.
func TestMeaningOfAllSmallBools(t *testing.T) {
	m := senseOf(small(), subsets(1, 2, 3))
	for count := 1; count <= 3; count++ {
		for roles := range 27 {
			for least := range count + 2 {
				var kids []branch
				for i := range count {
					kids = append(kids, numberLeaf(i+1).with(roles/[]int{1, 3, 9}[i]%3))
				}
				b := group(kids...).atLeast(least)
				m.wantHits(t, b.query())
				m.wantHits(t, group(allLeaf(), b.boosted(3)).query())
				m.wantHits(t, group(numberLeaf(2).with(must), b.with(mustNot)).query())
				m.wantHits(t, group(b.with(must), numberLeaf(2), b).atLeast(2).query())
			}
		}
	}
}

// A kid that must not match gives nothing to the score, one that need not does.
func TestMeaningOfBoolScores(t *testing.T) {
	docs := subsets(1, 2, 4)
	for text, want := range map[string]map[string]int{
		"n:1 n:2^2 n:4^4":     {"d1": 1, "d2": 2, "d4": 4, "d12": 3, "d14": 5, "d24": 6, "d124": 7},
		"+n:1 n:2^2 n:4^4":    {"d1": 1, "d12": 3, "d14": 5, "d124": 7},
		"+n:1 +n:2^2 n:4^4":   {"d12": 3, "d124": 7},
		"+n:1 -n:2^2 n:4^4":   {"d1": 1, "d14": 5},
		"-n:1 -n:2":           {"d": 0, "d4": 0},
		"(-n:1 -n:2)^9 n:4^4": {"d": 0, "d4": 4, "d14": 4, "d24": 4, "d124": 4},
		"+(-n:1) n:2^2":       {"d": 0, "d2": 2, "d4": 0, "d24": 2},
		"(n:1 n:2)^5 n:4":     {"d1": 5, "d2": 5, "d4": 1, "d12": 10, "d14": 6, "d24": 6, "d124": 11},
		"(n:1 n:2^2)@2^3 n:4": {"d12": 9, "d4": 1, "d14": 1, "d24": 1, "d124": 10},
		"n:1 n:1^3":           {"d1": 4, "d12": 4, "d14": 4, "d124": 4},
	} {
		list, code := impl.Meaning(small(), docs, queryOf(t, text))
		if code != impl.OK || len(list) != len(want) {
			t.Errorf("%s: %v, code %d, want %v", text, list, code, want)
		}
		for _, h := range list {
			if score, ok := want[h.Id]; !ok || h.Score != 1024*score {
				t.Errorf("%s: %v, want %v", text, list, want)
			}
		}
		wantSameMeaning(t, small(), docs, queryOf(t, text))
	}
}

// As many nodes one in the other as there may be.
func TestMeaningOfDeepBools(t *testing.T) {
	m := senseOf(small(), subsets(1, 2))
	for nest := range 8 {
		for roles := range 1 << nest {
			b := numberLeaf(1)
			for level := range nest {
				b = group(b.with([]int{must, mustNot}[roles>>level&1]))
			}
			m.wantHits(t, b.query())
		}
	}
}
