package tests

import (
	"fmt"
	"math/rand"
	"slices"
	"strings"
	"testing"

	"loop.example/g00018/impl"
)

// What the document says of gathering, told a second time: merged hits by sorting
// all of them at once, simpler queries by changing the first node that may be, again
// and again, likeness by the second tellings of terms and weights, fragments place by
// place, merged dictionaries by going all ways of both.

func matchesOf(s impl.Schema, d impl.Doc, q impl.Query) (bool, int) {
	hits, code := meaningOf(s, []impl.Doc{d}, q)
	return len(hits) > 0, code
}

func mergeCode(lists [][]impl.Found, keys []impl.SortKey, size int) int {
	if len(lists) > 16 {
		return impl.ErrMany
	}
	long, uneven, order := 0, btoi(size < 0 || size > 1000 || len(keys) > 4), 0
	for _, list := range lists {
		long += btoi(len(list) > 4096)
		for _, f := range list {
			uneven += btoi(len(f.Keys) != len(keys))
		}
	}
	switch {
	case long > 0:
		return impl.ErrLong
	case uneven > 0:
		return impl.ErrRange
	}
	for _, list := range lists {
		for i := range list {
			order += btoi(i > 0 && isAhead(list[i], list[i-1], keys))
		}
	}
	if order > 0 {
		return impl.ErrOrder
	}
	return impl.OK
}

// mergeOf leaves hits that are alike as they stand one behind the other.
func mergeOf(lists [][]impl.Found, keys []impl.SortKey, size int) ([]impl.Found, int) {
	if code := mergeCode(lists, keys, size); code != impl.OK {
		return nil, code
	}
	all := slices.Concat(lists...)
	slices.SortStableFunc(all, func(f, g impl.Found) int {
		return btoi(isAhead(g, f, keys)) - btoi(isAhead(f, g, keys))
	})
	return all[:min(size, len(all))], impl.OK
}

// needless tells whether a node is a QBool that may be its kid.
func needless(q impl.Query, i int) bool {
	n := q.Nodes[i]
	if n.Kind != impl.QBool || len(n.Kids) != 1 {
		return false
	}
	kid := q.Nodes[n.Kids[0]]
	least := map[int]int{impl.RoleShould: 1, impl.RoleMust: 0, impl.RoleNot: -1}[kid.Role]
	return n.Min <= least && n.Boost*kid.Boost <= 99
}

// withoutNode puts the kid of a node in its place.
func withoutNode(q impl.Query, i int) impl.Query {
	q = copyOf(q)
	role, boost := q.Nodes[i].Role, q.Nodes[i].Boost*q.Nodes[i+1].Boost
	q.Nodes = slices.Delete(q.Nodes, i, i+1)
	q.Nodes[i].Role, q.Nodes[i].Boost = role, boost
	for _, n := range q.Nodes {
		for k := range n.Kids {
			n.Kids[k] -= btoi(n.Kids[k] > i)
		}
	}
	return q
}

func simplifyOf(q impl.Query) (impl.Query, int) {
	if !rightQuery(q) {
		return impl.Query{}, impl.ErrBad
	}
	for i := 0; i < len(q.Nodes); i++ {
		if needless(q, i) {
			q, i = withoutNode(q, i), -1
		}
	}
	return q, impl.OK
}

func likeCode(s impl.Schema, docs []impl.Doc, id, name string, most int) int {
	if len(id) > 65536 || len(name) > 65536 {
		return impl.ErrLong
	}
	if code := meaningCode(s, docs, allLeaf().query()); code != impl.OK {
		return code
	}
	if !slices.ContainsFunc(docs, func(d impl.Doc) bool { return d.Id == id }) {
		return impl.ErrMissing
	}
	field, ok := fieldOf(s, name)
	switch {
	case !ok:
		return impl.ErrField
	case field.Kind != impl.KText:
		return impl.ErrKind
	case most < 1 || most > 20:
		return impl.ErrRange
	}
	return impl.OK
}

func likeOf(s impl.Schema, docs []impl.Doc, id, name string, most int) (impl.Query, int) {
	if code := likeCode(s, docs, id, name, most); code != impl.OK {
		return impl.Query{}, code
	}
	field, _ := fieldOf(s, name)
	with := map[string]map[string]int{} // of each term the documents that have it
	for _, d := range docs {
		list, _ := docTerms(s, d, name)
		for _, term := range list {
			if with[term.Text] == nil {
				with[term.Text] = map[string]int{}
			}
			with[term.Text][d.Id]++
		}
	}
	var rows []string // a Weight, turned round, and its term: so they stand in order as texts
	for term, ids := range with {
		told, _ := termsOf(field.Analyzer, term)
		if ids[id] > 0 && len(told) == 1 && told[0].Text == term {
			rows = append(rows, fmt.Sprintf("%09d %s", 1000000-weightOf(len(docs), len(ids)), term))
		}
	}
	slices.Sort(rows)
	root := group()
	for _, row := range rows[:min(most, len(rows))] {
		root.below = append(root.below, leaf(impl.Node{Kind: impl.QTerm, Field: name, Text: row[10:]}))
	}
	if len(rows) == 0 {
		return impl.Query{}, impl.ErrMissing
	}
	return root.query(), impl.OK
}

func fragmentsOf(text string, size int) ([]string, int) {
	if len(text) > 65536 {
		return nil, impl.ErrLong
	}
	if _, ok := formOf(text); !ok {
		return nil, impl.ErrForm
	}
	if size < 10 || size > 1000 {
		return nil, impl.ErrRange
	}
	parts := map[int]string{}
	marked := map[int]int{}
	for place, r := range []rune(text) {
		parts[place/size] += string(r)
		marked[place/size] += btoi(r == '[')
	}
	var list []string
	for part := range len(parts) {
		if marked[part] > 0 {
			list = append(list, parts[part])
		}
	}
	return list, impl.OK
}

func dictMergeOf(a, b impl.Dict) (impl.Dict, int) {
	if !isRight(a) || !isRight(b) {
		return impl.Dict{}, impl.ErrBad
	}
	some, _ := waysFrom(a, 0, "")
	others, _ := waysFrom(b, 0, "")
	return dictOfAll(some, others)
}

// dictOfAll tells the dictionary of all terms of rising lists, or the code.
func dictOfAll(some, others []string) (impl.Dict, int) {
	terms := slices.Concat(some, others)
	slices.Sort(terms)
	terms = slices.Compact(terms)
	if len(terms) > 4096 {
		return impl.Dict{}, impl.ErrLong
	}
	d := automatonOf(terms)
	if len(d.States) > 16384 {
		return impl.Dict{}, impl.ErrMany
	}
	return d, impl.OK
}

func wantMatches(t *testing.T, s impl.Schema, d impl.Doc, q impl.Query, want bool, wantCode int) {
	t.Helper()
	if ok, code := impl.Matches(s, d, q); ok != want || code != wantCode {
		t.Errorf("Matches of %s and %s: %v, code %d, want %v, code %d", cutOff(textOf(q)), shortDoc(d), ok, code, want, wantCode)
	}
}

// wantSameMatches holds an answer against the document's words.
func wantSameMatches(t *testing.T, s impl.Schema, d impl.Doc, q impl.Query) bool {
	t.Helper()
	want, code := matchesOf(s, d, q)
	wantMatches(t, s, d, q, want, code)
	return want
}

func shortFound(list []impl.Found) string {
	return cutOff(fmt.Sprintf("%v", list))
}

func shortFounds(lists [][]impl.Found) string {
	if len(lists) > 20 {
		return fmt.Sprintf("%d lists", len(lists))
	}
	text := ""
	for _, list := range lists {
		text += shortFound(list[:min(10, len(list))]) + fmt.Sprintf(" of %d; ", len(list))
	}
	return cutOff(text)
}

func wantMerged(t *testing.T, lists [][]impl.Found, keys []impl.SortKey, size int, want []impl.Found, wantCode int) {
	t.Helper()
	if list, code := impl.MergeHits(lists, keys, size); code != wantCode || !slices.EqualFunc(list, want, sameFound) {
		t.Errorf("MergeHits of %s by %s, %d: %s, code %d, want %s, code %d", shortFounds(lists), cutOff(fmt.Sprint(keys)), size, shortFound(list), code, shortFound(want), wantCode)
	}
}

// wantSameMerged holds an answer against the document's words.
func wantSameMerged(t *testing.T, lists [][]impl.Found, keys []impl.SortKey, size int) []impl.Found {
	t.Helper()
	want, code := mergeOf(lists, keys, size)
	wantMerged(t, lists, keys, size, want, code)
	return want
}

// wantMergeCode wants a code, and the second telling to say so too.
func wantMergeCode(t *testing.T, lists [][]impl.Found, keys []impl.SortKey, size, code int) {
	t.Helper()
	if own := mergeCode(lists, keys, size); own != code {
		t.Errorf("the second telling of %s by %s, %d: code %d, want %d", shortFounds(lists), cutOff(fmt.Sprint(keys)), size, own, code)
	}
	wantSameMerged(t, lists, keys, size)
}

// inOrder tells hits in an order, those that are alike as they stood.
func inOrder(list []impl.Found, keys []impl.SortKey) []impl.Found {
	slices.SortStableFunc(list, func(f, g impl.Found) int {
		return btoi(isAhead(g, f, keys)) - btoi(isAhead(f, g, keys))
	})
	return list
}

// risingHits tells n hits in order, each with so many keys.
func risingHits(n, keys int) []impl.Found {
	list := make([]impl.Found, n)
	for i := range list {
		list[i] = last(fmt.Sprintf("d%05d", i), 7, make([]int, keys)...)
	}
	return list
}

func wantSimple(t *testing.T, q, want impl.Query, wantCode int) {
	t.Helper()
	if got, code := impl.Simplify(q); code != wantCode || !sameQuery(got, want) {
		t.Errorf("Simplify of %s: %s, code %d, want %s, code %d", cutOff(textOf(q)), cutOff(textOf(got)), code, cutOff(textOf(want)), wantCode)
	}
}

// wantSameSimple holds an answer against the document's words.
func wantSameSimple(t *testing.T, q impl.Query) impl.Query {
	t.Helper()
	want, code := simplifyOf(q)
	wantSimple(t, q, want, code)
	return want
}

// wantSimpleBranch wants a query of another, and the second telling to say so too.
func wantSimpleBranch(t *testing.T, b, want branch) {
	t.Helper()
	if own, code := simplifyOf(b.query()); code != impl.OK || !sameQuery(own, want.query()) {
		t.Errorf("the second telling of %s: %s, code %d, want %s", textOf(b.query()), textOf(own), code, textOf(want.query()))
	}
	wantSimple(t, b.query(), want.query(), impl.OK)
}

// wantSimpleText is for queries that can be parsed.
func wantSimpleText(t *testing.T, text, want string) {
	t.Helper()
	q := queryOf(t, text)
	if own, code := simplifyOf(q); code != impl.OK || nodeText(own, 0) != want {
		t.Errorf("the second telling of %s: %s, code %d, want %s", text, textOf(own), code, want)
	}
	wantSameSimple(t, q)
}

func wantMoreLike(t *testing.T, s impl.Schema, docs []impl.Doc, id, field string, most int, want impl.Query, wantCode int) {
	t.Helper()
	if q, code := impl.MoreLike(s, docs, id, field, most); code != wantCode || !sameQuery(q, want) {
		t.Errorf("MoreLike of %s in %s, %d, of %s: %s, code %d, want %s, code %d", short(id), short(field), most, shortDocs(docs), cutOff(textOf(q)), code, cutOff(textOf(want)), wantCode)
	}
}

// wantSameMoreLike holds an answer against the document's words.
func wantSameMoreLike(t *testing.T, s impl.Schema, docs []impl.Doc, id, field string, most int) impl.Query {
	t.Helper()
	want, code := likeOf(s, docs, id, field, most)
	wantMoreLike(t, s, docs, id, field, most, want, code)
	return want
}

// wantTermsLike wants a query for these terms, which are written with blanks
// between, and the second telling to say so too; none is ErrMissing.
func wantTermsLike(t *testing.T, s impl.Schema, docs []impl.Doc, id, field string, most int, want string) {
	t.Helper()
	root, code := group(), impl.OK
	for _, term := range strings.Fields(want) {
		root.below = append(root.below, leaf(impl.Node{Kind: impl.QTerm, Field: field, Text: term}))
	}
	q := root.query()
	if want == "" {
		q, code = impl.Query{}, impl.ErrMissing
	}
	if own, ownCode := likeOf(s, docs, id, field, most); ownCode != code || !sameQuery(own, q) {
		t.Errorf("the second telling of %s in %s, %d: %s, code %d, want %s", id, field, most, textOf(own), ownCode, want)
	}
	wantMoreLike(t, s, docs, id, field, most, q, code)
}

func wantFragments(t *testing.T, text string, size int, want []string, wantCode int) {
	t.Helper()
	if list, code := impl.Fragments(text, size); code != wantCode || !slices.Equal(list, want) {
		t.Errorf("Fragments of %s, %d: %s, code %d, want %s, code %d", short(text), size, shortTexts(list), code, shortTexts(want), wantCode)
	}
}

// wantSameFragments holds an answer against the document's words.
func wantSameFragments(t *testing.T, text string, size int) []string {
	t.Helper()
	want, code := fragmentsOf(text, size)
	wantFragments(t, text, size, want, code)
	return want
}

// wantCut wants these fragments, and the second telling to say so too.
func wantCut(t *testing.T, text string, size int, want ...string) {
	t.Helper()
	if own, code := fragmentsOf(text, size); code != impl.OK || !slices.Equal(own, want) {
		t.Errorf("the second telling of %s, %d: %s, code %d, want %s", short(text), size, shortTexts(own), code, shortTexts(want))
	}
	wantFragments(t, text, size, want, impl.OK)
}

func wantDictMerge(t *testing.T, a, b, want impl.Dict, wantCode int) {
	t.Helper()
	if d, code := impl.DictMerge(a, b); code != wantCode || !sameDict(d, want) {
		t.Errorf("DictMerge of %s and %s: %s, code %d, want %s, code %d", shortDict(a), shortDict(b), shortDict(d), code, shortDict(want), wantCode)
	}
}

// wantMergedTerms merges the dictionaries of two rising lists, both ways, and holds
// what is told against the document's words.
func wantMergedTerms(t *testing.T, some, others []string) {
	t.Helper()
	want, code := dictOfAll(some, others)
	a, b := automatonOf(some), automatonOf(others)
	wantDictMerge(t, a, b, want, code)
	wantDictMerge(t, b, a, want, code)
}

// rowOfGroups tells groups one in the other with these boosts, the outermost first,
// and a branch in the innermost.
func rowOfGroups(b branch, boosts ...int) branch {
	for _, boost := range slices.Backward(boosts) {
		b = group(b).boosted(boost)
	}
	return b
}

// randomHits tells hits of few different keys, scores and ids, in order.
func randomHits(source *rand.Rand, n int, keys []impl.SortKey) []impl.Found {
	var list []impl.Found
	for range n {
		f := last(string(rune('a'+source.Intn(4))), source.Intn(3))
		for range keys {
			f.Keys = append(f.Keys, []int{noKey, -1, 0, 1}[source.Intn(4)])
		}
		list = append(list, f)
	}
	return inOrder(list, keys)
}

// randomRow tells a tree in which many a group holds one kid.
func randomRow(source *rand.Rand, nest int) branch {
	if nest == 1 || source.Intn(6) == 0 {
		return termLeaf(string(rune('a' + source.Intn(3)))).boosted([]int{1, 1, 2, 33, 99}[source.Intn(5)])
	}
	b := group().boosted([]int{1, 1, 1, 2, 3, 7, 50}[source.Intn(7)]).atLeast([]int{0, 0, 0, 1, 2}[source.Intn(5)])
	for range []int{1, 1, 1, 1, 2, 3}[source.Intn(6)] {
		b.below = append(b.below, randomRow(source, nest-1).with([]int{should, should, must, mustNot}[source.Intn(4)]))
	}
	return b
}
