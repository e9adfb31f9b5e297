package tests

import (
	"fmt"
	"math/rand"
	"strings"
	"testing"

	"loop.example/g00018/impl"
)

func TestPrintQueryOfEachKind(t *testing.T) {
	node := func(kind int, field, text string) branch {
		return leaf(impl.Node{Kind: kind, Field: field, Text: text})
	}
	slop := func(b branch, slop int) branch {
		b.Slop = slop
		return b
	}
	span := func(lo, hi int) branch {
		return leaf(impl.Node{Kind: impl.QRange, Field: "n", Lo: lo, Hi: hi})
	}
	far := greatestNumber
	for want, b := range map[string]branch{
		`cat`:                            termLeaf("cat"),
		`f:cat`:                          node(impl.QTerm, "f", "cat"),
		`f:cat^2`:                        node(impl.QTerm, "f", "cat").boosted(2),
		`\ \(\)\"\:\^\~\[\]\+\-\*\?\@\\`: termLeaf(querySigns),
		"\t!#$%&',./0;<=>A_`a{|}\x7f":    termLeaf("\t!#$%&',./0;<=>A_`a{|}\x7f"),
		"\u00e9\\ \u4e2d\\*\U0001f600":   termLeaf("\u00e9 \u4e2d*\U0001f600"),
		`""`:                             node(impl.QPhrase, "", ""),
		`f:""^9`:                         node(impl.QPhrase, "f", "").boosted(9),
		`"a b (c)* ~:^[]+-?@"`:           node(impl.QPhrase, "", "a b (c)* ~:^[]+-?@"),
		`"\"\\\""~20^99`:                 slop(node(impl.QPhrase, "", `"\"`), 20).boosted(99),
		`"a"~1`:                          slop(node(impl.QPhrase, "", "a"), 1),
		`ru*`:                            node(impl.QPrefix, "", "ru"),
		`f:\*\\*^3`:                      node(impl.QPrefix, "f", `*\`).boosted(3),
		`~"a*?b"`:                        node(impl.QWild, "", "a*?b"),
		`f:~"\\*\"\\\\"^4`:               node(impl.QWild, "f", `\*"\\`).boosted(4),
		`kat~1`:                          slop(node(impl.QFuzzy, "", "kat"), 1),
		`f:k\~t~2^5`:                     slop(node(impl.QFuzzy, "f", "k~t"), 2).boosted(5),
		`n:[1 2]`:                        span(1, 2),
		`n:[-2 -1]^6`:                    span(-2, -1).boosted(6),
		`n:[0 0]`:                        span(0, 0),
		`n:[* *]`:                        span(-far, far),
		`n:[* -1000000000000]`:           span(-far, -far),
		`n:[1000000000000 *]`:            span(far, far),
		`n:[-999999999999 999999999999]`: span(1-far, far-1),
		`*`:                              allLeaf(),
		`*^10`:                           allLeaf().boosted(10),
		`(a)`:                            group(termLeaf("a")),
		`(+a -f:b *)@64^7`:               group(termLeaf("a").with(must), node(impl.QTerm, "f", "b").with(mustNot), allLeaf()).atLeast(64).boosted(7),
		`((a b)@1 +(-*)^2)`:              group(group(termLeaf("a"), termLeaf("b")).atLeast(1), group(allLeaf().with(mustNot)).boosted(2).with(must)),
		`+*`:                             allLeaf().with(must), // not a root
	} {
		if b.Role == should {
			wantPrint(t, b.query(), want, impl.OK)
			wantQuery(t, b.query(), true)
		} else {
			wantPrint(t, b.query(), "", impl.ErrBad)
		}
		wantPrint(t, group(b).query(), "("+want+")", impl.OK)
		wantPrint(t, group(b.with(must), b.with(mustNot)).query(), "(+"+strings.TrimPrefix(want, "+")+" -"+strings.TrimPrefix(want, "+")+")", impl.OK)
	}
}

// Each character, in a text of each kind.
func TestPrintQueryOfEachCharacter(t *testing.T) {
	for r := rune(0); r < 400; r++ {
		for _, text := range []string{string(r), "a" + string(r) + "b", string(r) + string(r)} {
			for kind := impl.QTerm; kind <= impl.QFuzzy; kind++ {
				wantQuery(t, leaf(impl.Node{Kind: kind, Text: text, Slop: kind / impl.QFuzzy}).query(), true)
				wantQuery(t, leaf(impl.Node{Kind: kind, Field: "f", Text: text, Slop: kind / impl.QFuzzy, Boost: 2}).query(), true)
			}
		}
	}
	for _, r := range []rune{0x7ff, 0x800, 0xd7ff, 0xe000, 0xfffd, 0xffff, 0x10000, 0x10ffff} {
		wantQuery(t, termLeaf(string(r)).query(), true)
	}
}

// All texts of three signs, as those of each kind that may hold them.
func TestPrintQueryOfAllSmallTexts(t *testing.T) {
	every(strings.Split(querySigns+"a\u00e9", ""), 3, func(text string) {
		for kind := impl.QTerm; kind <= impl.QFuzzy; kind++ {
			wantSameQuery(t, leaf(impl.Node{Kind: kind, Text: text, Slop: kind / impl.QFuzzy}).query())
		}
	})
}

func TestPrintQueryNumbers(t *testing.T) {
	for n := 1; n <= 99; n++ {
		wantPrint(t, allLeaf().boosted(n).query(), "*"+numberUnless("^", n, 1), impl.OK)
		wantQuery(t, allLeaf().boosted(n).query(), true)
	}
	for n := range 65 {
		wantPrint(t, group(allLeaf()).atLeast(n).query(), "(*)"+numberUnless("@", n, 0), impl.OK)
		wantQuery(t, group(allLeaf()).atLeast(n).query(), true)
	}
	for n := range 21 {
		wantQuery(t, leaf(impl.Node{Kind: impl.QPhrase, Slop: n}).query(), true)
	}
	for n := 1; n <= greatestNumber; n *= 10 {
		for _, lo := range []int{-n, -n + 1, 0, n - 1, n} {
			for _, hi := range []int{-n, -n + 1, 0, n - 1, n} {
				wantQuery(t, leaf(impl.Node{Kind: impl.QRange, Field: "n", Lo: lo, Hi: hi}).query(), lo <= hi)
			}
		}
	}
}

// A valid query has a text, however long; up to MaxQuery bytes that tells it
// again.
func TestPrintQueryLongTexts(t *testing.T) {
	for size := 1; size <= 64; size++ {
		n := leaf(impl.Node{Kind: impl.QTerm, Field: strings.Repeat("f", 30), Text: strings.Repeat("*", size), Boost: 99})
		var kids []branch
		for len(kids) < 63 {
			kids = append(kids, n.with(must))
			q := group(kids...).query()
			wantQuery(t, q, true)
			if text, code := impl.PrintQuery(q); code != impl.OK || len(text) != len(kids)*(35+2*size+1)+1 {
				t.Errorf("PrintQuery of %d kids: %d bytes, code %d", len(kids), len(text), code)
			}
		}
	}
	for _, size := range []int{1999, 2000, 2001} {
		kids := []branch{leaf(impl.Node{Kind: impl.QPhrase, Text: "a"})}
		for range 29 {
			kids = append(kids, termLeaf(strings.Repeat("a", 64)))
		}
		kids = append(kids, termLeaf(strings.Repeat("b", 63)), termLeaf(strings.Repeat("c", size-1955)))
		q := group(kids...).query()
		text, code := impl.PrintQuery(q)
		if code != impl.OK || len(text) != size {
			t.Fatalf("%d bytes, code %d", len(text), code)
		}
		if size <= 2000 {
			wantParse(t, text, q, impl.OK)
		} else {
			wantParse(t, text, impl.Query{}, impl.ErrLong)
		}
	}
}

// randomBranch tells a valid node with at most left others below it.
func randomBranch(source *rand.Rand, nest, left int) branch {
	n := impl.Node{Kind: 1 + source.Intn(8), Boost: 1}
	if source.Intn(3) == 0 {
		n.Boost = 1 + source.Intn(99)
	}
	if n.Kind == impl.QRange || n.Kind < impl.QRange && source.Intn(2) == 0 {
		n.Field = []string{"a", "title", "x_9", strings.Repeat("z", 30)}[source.Intn(4)]
	}
	if n.Kind < impl.QRange {
		signs := []rune(querySigns + "ab19\u00e9\u4e2d\x00")
		for range 1 + source.Intn(8) {
			n.Text += string(signs[source.Intn(len(signs))])
		}
	}
	switch n.Kind {
	case impl.QPhrase:
		n.Text = n.Text[:len(n.Text)*source.Intn(2)]
		n.Slop = source.Intn(3) * source.Intn(11)
	case impl.QFuzzy:
		n.Slop = 1 + source.Intn(2)
	case impl.QRange:
		ends := []int{-greatestNumber, -17, 0, 5, 400, greatestNumber}
		lo := source.Intn(len(ends))
		n.Lo, n.Hi = ends[lo], ends[lo+source.Intn(len(ends)-lo)]
	case impl.QBool:
		return randomGroup(source, n, nest, left)
	}
	return leaf(n)
}

func randomGroup(source *rand.Rand, n impl.Node, nest, left int) branch {
	if nest == 1 || left <= 0 {
		return allLeaf()
	}
	n.Min = source.Intn(2) * source.Intn(65)
	b := branch{Node: n}
	for range 1 + source.Intn(min(left, 5)) {
		kid := randomBranch(source, nest-1, left/3-1).with(source.Intn(3))
		b.below = append(b.below, kid)
	}
	return b
}

func TestPrintedQueriesComeBack(t *testing.T) {
	source := rand.New(rand.NewSource(8))
	nodes := 0
	for range 4000 {
		b := group(randomBranch(source, 7, 60).with(source.Intn(3)), randomBranch(source, 7, 60))
		q := b.query()
		if len(q.Nodes) > 64 || !rightQuery(q) {
			continue
		}
		wantQuery(t, q, true)
		nodes = max(nodes, len(q.Nodes))
	}
	if nodes < 20 {
		t.Errorf("at most %d nodes", nodes)
	}
}

// A query's text may be put otherwise: with more blanks, with noughts ahead of
// numbers, with needless backslashes, with the numbers that are meant anyway.
func TestParseQueryOfOtherTexts(t *testing.T) {
	for text, other := range map[string]string{
		`a b`: ` a   b  `, `(a b)`: `(  a   b )`, `(a)^2`: `(a)@0^02`, `a`: `\a^1`, `"a b"`: `"\a\ b"~000`, `a~1`: `a~`, `~"a*"`: `~"\a\*"`,
		`n:[* 5]`: `n:[-1000000000000   05]`, `n:[0 *]`: `n:[-0 1000000000000]`, `+a -b`: `  +a^0000001 -\b^001  `,
	} {
		q, code := impl.ParseQuery(text)
		if code != impl.OK {
			t.Errorf("%s: code %d", text, code)
		}
		wantParse(t, other, q, impl.OK)
		wantSameParse(t, other)
	}
	source := rand.New(rand.NewSource(9))
	for range 500 {
		q := group(randomBranch(source, 7, 60)).query()
		text, code := impl.PrintQuery(q)
		if code != impl.OK || len(text) > 600 {
			continue
		}
		wantParse(t, fmt.Sprintf("   %s  ", text), q, impl.OK)
		wantParse(t, text[1:len(text)-1], insideOf(q), impl.OK)
	}
}

// insideOf tells the query of the text between the brackets of a root that has
// one kid.
func insideOf(q impl.Query) impl.Query {
	if q.Nodes[1].Role != should {
		return q
	}
	q = copyOf(q)
	q.Nodes = q.Nodes[1:]
	for i := range q.Nodes {
		for j := range q.Nodes[i].Kids {
			q.Nodes[i].Kids[j]--
		}
	}
	return q
}
