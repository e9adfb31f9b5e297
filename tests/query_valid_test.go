package tests

import (
	"fmt"
	"slices"
	"strings"
	"testing"

	"loop.example/g00018/impl"
)

// leaves tells a valid node of each kind without kids, and of some two.
func leaves() []impl.Node {
	return []impl.Node{
		{Kind: impl.QTerm, Boost: 1, Text: "cat"},
		{Kind: impl.QTerm, Role: must, Boost: 3, Field: "title", Text: "a b"},
		{Kind: impl.QPhrase, Boost: 1, Text: "big \"fox\""},
		{Kind: impl.QPhrase, Role: mustNot, Boost: 99, Field: "f", Slop: 20},
		{Kind: impl.QPrefix, Boost: 2, Field: "f", Text: "ru"},
		{Kind: impl.QWild, Boost: 1, Field: "f", Text: `a*\?`},
		{Kind: impl.QFuzzy, Boost: 1, Text: "kat", Slop: 1},
		{Kind: impl.QFuzzy, Role: must, Boost: 5, Field: "f", Text: "kat", Slop: 2},
		{Kind: impl.QRange, Boost: 1, Field: "n", Lo: -5, Hi: 7},
		{Kind: impl.QRange, Role: mustNot, Boost: 1, Field: "n", Lo: -greatestNumber, Hi: greatestNumber},
		{Kind: impl.QAll, Boost: 1},
	}
}

// A nodeChange makes one part of a node another one.
type nodeChange func(n *impl.Node)

func nodeChanges() []nodeChange {
	var list []nodeChange
	for _, v := range []int{-1 << 63, -greatestNumber - 1, -greatestNumber, -20, -1, 0, 1, 2, 3, 4, 5, 6, 7, 8, 9, 20, 21, 63, 64, 65, 99, 100, greatestNumber, greatestNumber + 1, 1<<63 - 1} {
		list = append(list,
			func(n *impl.Node) { n.Kind = v },
			func(n *impl.Node) { n.Role = v },
			func(n *impl.Node) { n.Boost = v },
			func(n *impl.Node) { n.Slop = v },
			func(n *impl.Node) { n.Min = v },
			func(n *impl.Node) { n.Lo = v },
			func(n *impl.Node) { n.Hi = v },
		)
	}
	for _, field := range []string{"", "a", "title", "a_9", strings.Repeat("a", 30), strings.Repeat("a", 31), "A", "9a", "_a", "a b", "a:", "\u00e9", "\xff", "a\\"} {
		list = append(list, func(n *impl.Node) { n.Field = field })
	}
	for _, text := range []string{"", "a", " ", "\\", "\"", "*", "a\x00b", "\u4e2d", "\xff", "a\xc3", strings.Repeat("a", 30), strings.Repeat("a", 31), strings.Repeat("a", 64), strings.Repeat("a", 65), strings.Repeat("\u00e9", 30), strings.Repeat("\u00e9", 31), strings.Repeat("\u00e9", 32), strings.Repeat("\u00e9", 32) + "a", strings.Repeat("a", 70000), "????????", "?????????", "*a??????b", "*a????????", querySigns} {
		list = append(list, func(n *impl.Node) { n.Text = text })
	}
	for _, kids := range [][]int{nil, {}, {0}, {1}, {2}, {-1}, {1, 2}, {1, 1}, {1 << 40}} {
		list = append(list, func(n *impl.Node) { n.Kids = kids })
	}
	return list
}

// wantSameNode asks for a node alone, as the root, and below one.
func wantSameNode(t *testing.T, n impl.Node) {
	t.Helper()
	wantSameQuery(t, impl.Query{Nodes: []impl.Node{n}})
	if len(n.Kids) == 0 {
		wantSameQuery(t, group(branch{Node: n}).query())
	}
}

func TestQueryOKOfEachNode(t *testing.T) {
	for _, n := range leaves() {
		for _, role := range []int{should, must, mustNot} {
			n.Role = role
			wantQuery(t, impl.Query{Nodes: []impl.Node{n}}, role == should)
			wantQuery(t, group(branch{Node: n}).query(), true)
			wantQuery(t, group(allLeaf(), branch{Node: n}, group(branch{Node: n})).query(), true)
		}
	}
}

func TestQueryOKOfChangedNodes(t *testing.T) {
	all := nodeChanges()
	for _, n := range leaves() {
		for i, change := range all {
			once := n
			change(&once)
			wantSameNode(t, once)
			for _, other := range all[:i] {
				if n.Kind == impl.QWild && i%7 > 0 {
					continue // as patterns take long
				}
				twice := once
				other(&twice)
				wantSameNode(t, twice)
			}
		}
	}
}

func TestQueryOKOfChangedGroups(t *testing.T) {
	for _, change := range nodeChanges() {
		for at := range 3 {
			q := group(group(termLeaf("a"))).query()
			change(&q.Nodes[at])
			wantSameQuery(t, q)
			q = group(allLeaf(), termLeaf("a")).query()
			change(&q.Nodes[at])
			wantSameQuery(t, q)
		}
	}
}

// What the kind does not name must be zero.
func TestQueryOKRefusesWhatIsNotNamed(t *testing.T) {
	named := map[int]string{impl.QTerm: "field text", impl.QPhrase: "field text slop", impl.QPrefix: "field text", impl.QWild: "field text", impl.QFuzzy: "field text slop", impl.QRange: "field lo hi", impl.QAll: "", impl.QBool: "min kids"}
	parts := map[string]nodeChange{
		"field": func(n *impl.Node) { n.Field = "f" },
		"text":  func(n *impl.Node) { n.Text = "x" },
		"slop":  func(n *impl.Node) { n.Slop = 1 },
		"min":   func(n *impl.Node) { n.Min = 1 },
		"lo":    func(n *impl.Node) { n.Lo = -1 },
		"hi":    func(n *impl.Node) { n.Hi = 1 },
		"kids":  func(n *impl.Node) { n.Kids = []int{1} },
	}
	for kind, names := range named {
		for part := range parts {
			q := impl.Query{Nodes: []impl.Node{{Kind: kind, Boost: 1}}}
			for _, name := range append(strings.Fields(names), part) {
				parts[name](&q.Nodes[0])
			}
			if len(q.Nodes[0].Kids) > 0 {
				q.Nodes = append(q.Nodes, allLeaf().Node)
			}
			wantQuery(t, q, slices.Contains(strings.Fields(names), part))
		}
	}
}

// kidLists tells all lists of at most two numbers from -1 to n.
func kidLists(n int) [][]int {
	lists := [][]int{nil}
	for a := -1; a <= n; a++ {
		lists = append(lists, []int{a})
		for b := -1; b <= n; b++ {
			lists = append(lists, []int{a, b})
		}
	}
	return lists
}

// All queries of three nodes, and those of four in which the last has no kids, by
// their kids; just the trees in the order of the text are right.
func TestQueryOKOfAllSmallTrees(t *testing.T) {
	right := 0
	for size := 1; size <= 4; size++ {
		q := impl.Query{Nodes: make([]impl.Node, size)}
		var fill func(at int)
		fill = func(at int) {
			if at == size {
				if rightQuery(q) {
					right++
					wantQuery(t, q, true)
				} else if impl.QueryOK(q) {
					t.Errorf("QueryOK of %s", shortQuery(q))
				}
				return
			}
			for _, kids := range kidLists(size) {
				q.Nodes[at] = impl.Node{Kind: impl.QAll, Boost: 1, Kids: kids}
				if len(kids) > 0 {
					q.Nodes[at].Kind = impl.QBool
				}
				fill(at + 1)
				if at == 3 {
					break
				}
			}
		}
		fill(0)
	}
	// Of 1 to 4 nodes there are 1, 1, 2 and 5 trees; one of the last has three kids.
	if right != 8 {
		t.Errorf("%d trees", right)
	}
}

func TestQueryOKOfTreesOutOfOrder(t *testing.T) {
	a, b, c := termLeaf("a").Node, termLeaf("b").Node, termLeaf("c").Node
	list := func(kids ...int) impl.Node { return impl.Node{Kind: impl.QBool, Boost: 1, Kids: kids} }
	for _, nodes := range [][]impl.Node{
		{list(2, 1), a, b},               // kids not in order
		{list(1, 3), a, list(3), b},      // one with two parents
		{list(1, 2), list(3), a, b},      // level by level
		{list(2), list(), a},             // one that nobody names, without kids
		{list(1), a, b},                  // one behind the tree
		{list(1, 2), a},                  // a kid that is not there
		{list(1, 1), a},                  // one kid twice
		{list(0)},                        // the root in itself
		{list(1), list(0)},               // the root below its kid
		{list(1), list(1)},               // a kid in itself
		{list(1), list(2), list(1)},      // a ring
		{a, list(0)},                     // the root at the end
		{list(-1), a},                    // numbers that there are not
		{list(1, -1), a},                 //
		{list(1 << 62), a},               //
		{list(1<<63 - 1), a},             //
		{list(-1 << 63), a},              //
		{list(1, 3), list(2), a, c, b},   // one left over
		{list(1, 2, 3), list(2), a, b},   // one taken ahead of its turn
		{list(1), list(2, 3), list(), a}, // a group without kids
		{list()},                         //
		{{Kind: impl.QAll, Boost: 1, Kids: []int{1}}, a}, // kids of what has none
		{list(1), {Kind: impl.QTerm, Boost: 1, Text: "a", Kids: []int{2}}, b},
	} {
		wantQuery(t, impl.Query{Nodes: nodes}, false)
	}
	for _, nodes := range [][]impl.Node{
		{list(1, 2), a, b}, {list(1, 3), list(2), a, b}, {list(1, 2), a, list(3)}, {list(1, 2, 4), a, list(3), b, c},
	} {
		wantSameQuery(t, impl.Query{Nodes: nodes})
	}
	wantQuery(t, impl.Query{Nodes: []impl.Node{list(1, 2, 4), a, list(3), b, c}}, true)
	wantQuery(t, impl.Query{}, false)
	wantQuery(t, impl.Query{Nodes: []impl.Node{}}, false)
	wantQuery(t, impl.Query{Nodes: make([]impl.Node, 5)}, false)
}

// A root may name more kids than there can be nodes.
func TestQueryOKOfManyKids(t *testing.T) {
	kids := make([]int, 1<<12)
	for i := range kids {
		kids[i] = i + 1
	}
	for size := 1; size <= 64; size++ {
		q := impl.Query{Nodes: make([]impl.Node, size)}
		for i := range q.Nodes {
			q.Nodes[i] = allLeaf().Node
		}
		q.Nodes[0] = impl.Node{Kind: impl.QBool, Boost: 1, Kids: kids}
		wantQuery(t, q, false)
		q.Nodes[0].Kids = kids[:size-1]
		wantQuery(t, q, size > 1)
		q.Nodes[0].Kids = kids[:size]
		wantQuery(t, q, false)
	}
}

func TestQueryOKMostNodes(t *testing.T) {
	for _, size := range []int{1, 2, 62, 63, 64, 65, 66, 200} {
		var kids []branch
		for range size {
			kids = append(kids, termLeaf("a"))
		}
		wantQuery(t, group(kids...).query(), size <= 63)
		wantQuery(t, group(group(kids...)).query(), size <= 62)
		wantQuery(t, group(append(kids, group(allLeaf()))...).query(), size <= 61)
	}
	// A chain of groups, far deeper than any call could go down.
	q := nested(100000, allLeaf()).query()
	wantQuery(t, q, false)
	wantQuery(t, impl.Query{Nodes: q.Nodes[len(q.Nodes)-64:]}, false)
}

func TestQueryOKMostNest(t *testing.T) {
	for depth := range 70 {
		for _, b := range []branch{allLeaf(), termLeaf("a"), group(allLeaf(), termLeaf("a"))} {
			nest := depth + 1 + min(len(b.below), 1)
			wantQuery(t, nested(depth, b).query(), nest <= 8)
			wantQuery(t, group(allLeaf(), nested(depth, b)).query(), nest <= 7)
			wantQuery(t, group(nested(depth, b), allLeaf()).query(), nest <= 7)
		}
	}
}

// The bounds of each part, one by one.
func TestQueryOKBounds(t *testing.T) {
	far := greatestNumber
	for _, c := range []struct {
		n     impl.Node
		right bool
	}{
		{impl.Node{Kind: 0, Boost: 1}, false},
		{impl.Node{Kind: 9, Boost: 1}, false},
		{impl.Node{Kind: -1, Boost: 1}, false},
		{impl.Node{Kind: impl.QAll, Boost: 0}, false},
		{impl.Node{Kind: impl.QAll, Boost: 99}, true},
		{impl.Node{Kind: impl.QAll, Boost: 100}, false},
		{impl.Node{Kind: impl.QAll, Boost: 1, Role: -1}, false},
		{impl.Node{Kind: impl.QAll, Boost: 1, Role: 3}, false},
		{impl.Node{Kind: impl.QPhrase, Boost: 1, Slop: 20}, true},
		{impl.Node{Kind: impl.QPhrase, Boost: 1, Slop: 21}, false},
		{impl.Node{Kind: impl.QPhrase, Boost: 1, Slop: -1}, false},
		{impl.Node{Kind: impl.QFuzzy, Boost: 1, Text: "a", Slop: 0}, false},
		{impl.Node{Kind: impl.QFuzzy, Boost: 1, Text: "a", Slop: 2}, true},
		{impl.Node{Kind: impl.QFuzzy, Boost: 1, Text: "a", Slop: 3}, false},
		{impl.Node{Kind: impl.QFuzzy, Boost: 1, Text: strings.Repeat("\u00e9", 30), Slop: 1}, true},
		{impl.Node{Kind: impl.QFuzzy, Boost: 1, Text: strings.Repeat("a", 31), Slop: 1}, false},
		{impl.Node{Kind: impl.QFuzzy, Boost: 1, Text: strings.Repeat("\u4e2d", 22), Slop: 1}, false},
		{impl.Node{Kind: impl.QWild, Boost: 1, Text: strings.Repeat("a", 30)}, true},
		{impl.Node{Kind: impl.QWild, Boost: 1, Text: strings.Repeat("a", 31)}, false},
		{impl.Node{Kind: impl.QWild, Boost: 1, Text: strings.Repeat("\u4e2d", 21) + "a"}, true},
		{impl.Node{Kind: impl.QWild, Boost: 1, Text: strings.Repeat("\u4e2d", 21) + "ab"}, false},
		{impl.Node{Kind: impl.QWild, Boost: 1, Text: "????????"}, true},
		{impl.Node{Kind: impl.QWild, Boost: 1, Text: "?????????"}, false},
		{impl.Node{Kind: impl.QWild, Boost: 1, Text: "*a????????"}, false},
		{impl.Node{Kind: impl.QWild, Boost: 1, Text: ""}, false},
		{impl.Node{Kind: impl.QTerm, Boost: 1, Text: strings.Repeat("a", 64)}, true},
		{impl.Node{Kind: impl.QTerm, Boost: 1, Text: strings.Repeat("a", 65)}, false},
		{impl.Node{Kind: impl.QTerm, Boost: 1, Text: ""}, false},
		{impl.Node{Kind: impl.QPrefix, Boost: 1, Text: strings.Repeat("a", 64)}, true},
		{impl.Node{Kind: impl.QPrefix, Boost: 1, Text: strings.Repeat("a", 65)}, false},
		{impl.Node{Kind: impl.QPrefix, Boost: 1, Text: ""}, false},
		{impl.Node{Kind: impl.QPhrase, Boost: 1, Text: strings.Repeat("a", 64)}, true},
		{impl.Node{Kind: impl.QPhrase, Boost: 1, Text: strings.Repeat("a", 65)}, false},
		{impl.Node{Kind: impl.QRange, Boost: 1, Lo: 1, Hi: 1}, false},
		{impl.Node{Kind: impl.QRange, Boost: 1, Field: "n"}, true},
		{impl.Node{Kind: impl.QRange, Boost: 1, Field: "N"}, false},
		{impl.Node{Kind: impl.QRange, Boost: 1, Field: "n", Lo: -far, Hi: -far}, true},
		{impl.Node{Kind: impl.QRange, Boost: 1, Field: "n", Lo: far, Hi: far}, true},
		{impl.Node{Kind: impl.QRange, Boost: 1, Field: "n", Lo: -far - 1}, false},
		{impl.Node{Kind: impl.QRange, Boost: 1, Field: "n", Hi: far + 1}, false},
		{impl.Node{Kind: impl.QRange, Boost: 1, Field: "n", Lo: 1, Hi: 0}, false},
		{impl.Node{Kind: impl.QRange, Boost: 1, Field: "n", Lo: -1 << 63, Hi: 1<<63 - 1}, false},
	} {
		wantQuery(t, impl.Query{Nodes: []impl.Node{c.n}}, c.right)
	}
	for _, least := range []int{-1, 0, 1, 63, 64, 65, 1 << 62} {
		wantQuery(t, group(allLeaf()).atLeast(least).query(), least >= 0 && least <= 64)
	}
	for _, form := range badTexts() {
		if _, ok := formOf(form); !ok {
			for kind := impl.QTerm; kind <= impl.QFuzzy; kind++ {
				wantQuery(t, impl.Query{Nodes: []impl.Node{{Kind: kind, Boost: 1, Text: form, Slop: kind / impl.QFuzzy}}}, false)
			}
		}
	}
}

func TestQueryFieldNames(t *testing.T) {
	for r := range 256 {
		for _, field := range []string{string([]byte{byte(r)}), "a" + string([]byte{byte(r)}), "a" + string(rune(r)) + "a"} {
			wantQuery(t, leaf(impl.Node{Kind: impl.QTerm, Field: field, Text: "a"}).query(), nameForm.MatchString(field))
			wantQuery(t, leaf(impl.Node{Kind: impl.QRange, Field: field, Hi: 1}).query(), nameForm.MatchString(field))
		}
	}
	for size := range 40 {
		for kind := impl.QTerm; kind <= impl.QFuzzy; kind++ {
			n := impl.Node{Kind: kind, Field: strings.Repeat("f", size), Text: "a", Slop: kind / impl.QFuzzy}
			wantQuery(t, leaf(n).query(), size <= 30)
		}
	}
	for _, n := range []branch{allLeaf(), group(allLeaf())} {
		n.Field = "f"
		wantQuery(t, n.query(), false)
		wantQuery(t, group(n).query(), false)
	}
}

func TestQueryErrBadIsAllThatPrintTells(t *testing.T) {
	for _, q := range []impl.Query{{}, {Nodes: []impl.Node{{}}}, group().query(), termLeaf("a").with(must).query(), nested(8, allLeaf()).query()} {
		text, code := impl.PrintQuery(q)
		if text != "" || code != impl.ErrBad {
			t.Errorf("PrintQuery of %s: %s", shortQuery(q), fmt.Sprint(text, code))
		}
	}
}
