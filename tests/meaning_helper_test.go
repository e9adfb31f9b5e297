package tests

import (
	"cmp"
	"fmt"
	"math/big"
	"regexp"
	"slices"
	"strings"
	"testing"

	"loop.example/g00018/impl"
)

// What the document says of the meaning of a query, told a second time: one node
// on one document after the other, each position and each document looked at as
// the words have it, nothing kept but the terms.

const mostScore = 1000 * 1000 * 1000 * 1000

var wholeNumber = regexp.MustCompile(`^-?[0-9]{1,15}$`)

// log2Of goes by numbers that do not wrap.
func log2Of(v int) int {
	if v < 1 || v > greatest {
		return 0
	}
	power := func(k int) *big.Int { return new(big.Int).Lsh(big.NewInt(1), uint(k)) }
	wide := big.NewInt(int64(v))
	k := 0
	for power(k+1).Cmp(wide) <= 0 {
		k++
	}
	x := new(big.Int).Mul(wide, power(30))
	x.Quo(x, power(k))
	bits := ""
	for range 10 {
		x.Mul(x, x)
		x.Quo(x, power(30))
		if x.Cmp(power(31)) >= 0 {
			bits += "1"
			x.Quo(x, big.NewInt(2))
		} else {
			bits += "0"
		}
	}
	tail, _ := new(big.Int).SetString(bits, 2)
	return 1024*k + int(tail.Int64())
}

func weightOf(n, with int) int {
	if with < 0 || with > n || n > 512 {
		return 0
	}
	odds := 1024 * (2*n - 2*with + 1) / (2*with + 1)
	return log2Of(odds+1024) - 10240
}

func strengthOf(freq, length, n, total int) int {
	most := 65536 * 512
	for _, v := range []int{freq, length, total} {
		if v < 0 || v > most {
			return 0
		}
	}
	if freq < 1 || n < 0 || n > 512 {
		return 0
	}
	below := 1000*freq + 300
	if total != 0 {
		below += 900 * length * n / total
	}
	return 2200000 * freq / below
}

// A sense is a query on documents.
type sense struct {
	s     impl.Schema
	docs  []impl.Doc
	q     impl.Query
	terms map[string][][]impl.Token // of each field of texts, by document
}

func senseOf(s impl.Schema, docs []impl.Doc) sense {
	m := sense{s: s, docs: docs, terms: map[string][][]impl.Token{}}
	for _, field := range s.Fields {
		for _, d := range docs {
			if field.Kind != impl.KNumber {
				list, _ := docTerms(s, d, field.Name)
				m.terms[field.Name] = append(m.terms[field.Name], list)
			}
		}
	}
	return m
}

func meaningCode(s impl.Schema, docs []impl.Doc, q impl.Query) int {
	if len(docs) > 512 {
		return impl.ErrMany
	}
	ids := map[string]int{}
	for _, d := range docs {
		if !rightDoc(s, d) {
			return impl.ErrBad
		}
		ids[d.Id]++
	}
	if !rightSchema(s) || !rightQuery(q) {
		return impl.ErrBad
	}
	if len(ids) < len(docs) {
		return impl.ErrExists
	}
	for _, n := range q.Nodes {
		if _, ok := fieldOf(s, n.Field); n.Field != "" && !ok {
			return impl.ErrField
		}
	}
	return impl.OK
}

func meaningOf(s impl.Schema, docs []impl.Doc, q impl.Query) ([]impl.Hit, int) {
	if code := meaningCode(s, docs, q); code != impl.OK {
		return nil, code
	}
	return senseOf(s, docs).hits(q), impl.OK
}

// hits is for a query that can be asked.
func (m sense) hits(q impl.Query) []impl.Hit {
	m.q = q
	var list []impl.Hit
	for doc, d := range m.docs {
		if score, ok := m.node(0, doc); ok {
			list = append(list, impl.Hit{Id: d.Id, Score: score})
		}
	}
	slices.SortFunc(list, func(a, b impl.Hit) int {
		if a.Score != b.Score {
			return b.Score - a.Score
		}
		return cmp.Compare(a.Id, b.Id)
	})
	return list
}

// node tells what a node scores on a document, and whether it matches.
func (m sense) node(i, doc int) (int, bool) {
	n := m.q.Nodes[i]
	score, ok := 0, false
	switch n.Kind {
	case impl.QAll:
		score, ok = 1024, true
	case impl.QBool:
		score, ok = m.kids(n, doc)
	default:
		for _, field := range m.s.Fields {
			if n.Field == field.Name || n.Field == "" && field.Kind == impl.KText {
				if points, does := m.leaf(n, field, doc); does {
					score, ok = max(score, points), true
				}
			}
		}
	}
	if !ok {
		return 0, false
	}
	return min(n.Boost*min(score, mostScore), mostScore), true
}

func (m sense) kids(n impl.Node, doc int) (int, bool) {
	var all, found [3]int
	sum := 0
	for _, kid := range n.Kids {
		role := m.q.Nodes[kid].Role
		all[role]++
		if points, ok := m.node(kid, doc); ok {
			found[role]++
			if role != 2 {
				sum += points
			}
		}
	}
	asks := n.Min
	if asks == 0 && all[0] > 0 && all[1] == 0 {
		asks = 1
	}
	return sum, found[1] == all[1] && found[2] == 0 && found[0] >= asks
}

func (m sense) leaf(n impl.Node, field impl.FieldDef, doc int) (int, bool) {
	if field.Kind == impl.KNumber {
		return 1024, m.hasNumber(n, field, doc)
	}
	text := n.Text
	if field.Kind == impl.KText && field.Analyzer.Fold && (n.Kind == impl.QPrefix || n.Kind == impl.QFuzzy) {
		text = foldedOf(text)
	}
	switch n.Kind {
	case impl.QTerm, impl.QPhrase:
		return m.phrase(n, field, doc)
	case impl.QRange:
		return 0, false
	}
	return 1024, slices.ContainsFunc(m.terms[field.Name][doc], func(term impl.Token) bool {
		switch n.Kind {
		case impl.QPrefix:
			return strings.HasPrefix(term.Text, text)
		case impl.QWild:
			return fitsPattern(text, term.Text)
		}
		return knownEdits([]rune(text), []rune(term.Text)) <= n.Slop
	})
}

func (m sense) hasNumber(n impl.Node, field impl.FieldDef, doc int) bool {
	lo, hi := n.Lo, n.Hi
	switch n.Kind {
	case impl.QTerm, impl.QPhrase:
		if !wholeNumber.MatchString(n.Text) {
			return false
		}
		wide, _ := new(big.Int).SetString(n.Text, 10)
		lo, hi = int(wide.Int64()), int(wide.Int64())
	case impl.QRange:
	default:
		return false
	}
	for _, v := range m.docs[doc].Values {
		for _, number := range v.Numbers {
			if v.Field == field.Name && lo <= number && number <= hi {
				return true
			}
		}
	}
	return false
}

// A spot is a place of a text that is looked for.
type spot struct {
	pos   int
	texts []string
}

func spotsIn(field impl.FieldDef, text string) []spot {
	if field.Kind == impl.KWord {
		return []spot{{0, []string{text}}}
	}
	terms, _ := termsOf(field.Analyzer, text)
	var list []spot
	for pos := range 100 {
		var texts []string
		for _, term := range terms {
			if term.Pos == pos {
				texts = append(texts, term.Text)
			}
		}
		if texts != nil {
			list = append(list, spot{pos, texts})
		}
	}
	return list
}

func (m sense) phrase(n impl.Node, field impl.FieldDef, doc int) (int, bool) {
	spots := spotsIn(field, n.Text)
	if len(spots) == 0 {
		return 0, false
	}
	list := m.terms[field.Name]
	total, last := 0, 0
	for _, terms := range list {
		total += len(terms)
	}
	for _, term := range list[doc] {
		last = max(last, term.Pos)
	}
	findings := 0
	for p := range last + 1 {
		found := standsWithin(list[doc], spots[0], p, p)
		for _, s := range spots[1:] {
			from := p + s.pos - spots[0].pos
			found = found && standsWithin(list[doc], s, from, from+n.Slop)
		}
		if found {
			findings++
		}
	}
	weights := 0
	for _, s := range spots {
		with := 0
		for _, terms := range list {
			if standsWithin(terms, s, 0, 1<<40) {
				with++
			}
		}
		weights += weightOf(len(m.docs), with)
	}
	return weights * strengthOf(findings, len(list[doc]), len(m.docs), total) / 1000, findings > 0
}

// standsWithin tells whether one of the texts has a Pos from lo to hi.
func standsWithin(terms []impl.Token, s spot, lo, hi int) bool {
	return slices.ContainsFunc(terms, func(term impl.Token) bool {
		return lo <= term.Pos && term.Pos <= hi && slices.Contains(s.texts, term.Text)
	})
}

func shortHits(list []impl.Hit) string {
	return cutOff(fmt.Sprintf("%v", list))
}

func wantMeaning(t *testing.T, s impl.Schema, docs []impl.Doc, q impl.Query, want []impl.Hit, wantCode int) {
	t.Helper()
	if list, code := impl.Meaning(s, docs, q); code != wantCode || !slices.Equal(list, want) {
		t.Errorf("Meaning of %s on %s: %s, code %d, want %s, code %d", cutOff(textOf(q)), shortDocs(docs), shortHits(list), code, shortHits(want), wantCode)
	}
}

// textOf tells a query that need not be valid.
func textOf(q impl.Query) string {
	if text, code := printOf(q); code == impl.OK {
		return text
	}
	return shortQuery(q)
}

// wantSameMeaning holds a query on documents against the document's words.
func wantSameMeaning(t *testing.T, s impl.Schema, docs []impl.Doc, q impl.Query) {
	t.Helper()
	want, code := meaningOf(s, docs, q)
	wantMeaning(t, s, docs, q, want, code)
}

// wantHits is wantSameMeaning of many queries on the same documents.
func (m sense) wantHits(t *testing.T, q impl.Query) {
	t.Helper()
	wantMeaning(t, m.s, m.docs, q, m.hits(q), impl.OK)
}

// queryOf is for a text that is a query.
func queryOf(t *testing.T, text string) impl.Query {
	t.Helper()
	q, code := impl.ParseQuery(text)
	if code != impl.OK {
		t.Fatalf("%s is no query: code %d", text, code)
	}
	return q
}

// idsOf tells the ids of hits, rising, with a blank between each two.
func idsOf(list []impl.Hit) string {
	var ids []string
	for _, h := range list {
		ids = append(ids, h.Id)
	}
	slices.Sort(ids)
	return strings.Join(ids, " ")
}

// wantIds wants a query to match just these documents, and the second telling to
// say so too.
func wantIds(t *testing.T, s impl.Schema, docs []impl.Doc, q impl.Query, want string) {
	t.Helper()
	list, code := impl.Meaning(s, docs, q)
	if code != impl.OK || idsOf(list) != want {
		t.Errorf("Meaning of %s: %s, code %d, want the ids %s", textOf(q), shortHits(list), code, want)
	}
	wantSameMeaning(t, s, docs, q)
}

// wantTextIds is wantIds of a query's text.
func wantTextIds(t *testing.T, s impl.Schema, docs []impl.Doc, text, want string) {
	t.Helper()
	wantIds(t, s, docs, queryOf(t, text), want)
}

// scene is a schema with fields of every kind, of which three are of words that
// are taken in several ways.
func scene() impl.Schema {
	return schemaOf(
		textField("body", impl.Analyzer{Fold: true, Stem: true, Stops: []string{"the", "of"}, Synonyms: []impl.Synonym{{From: "cat", To: "feline"}, {From: "cat", To: "pet"}, {From: "dog", To: "pet"}}}),
		textField("grams", impl.Analyzer{Lo: 2, Hi: 3}), numberField("n"), textField("plain", impl.Analyzer{}), wordField("tag"), numberField("year"),
	)
}

// sceneDocs are valid documents of scene that have terms in common.
func sceneDocs() []impl.Doc {
	return []impl.Doc{
		docWith("d1", textsIn("body", "The Cat of the dog", "a cat"), numbersIn("n", 5), textsIn("plain", "Cat cat DOG"), textsIn("tag", "red", "blue", "red")),
		docWith("d2", textsIn("body", "dogs running, running cats"), textsIn("grams", "cat cab"), numbersIn("n", -5, 7, 7), textsIn("plain", "dog cat dog cat"), textsIn("tag", "Red")),
		docWith("c", textsIn("body", "a pet and a feline"), textsIn("grams", "ab", "abc bca"), textsIn("plain", "red blue"), textsIn("tag", "red blue", "r\u00e9d"), numbersIn("year", 1900, 2000)),
		docWith("z"),
		docWith("e", textsIn("body", "\u00c9t\u00e9 \u4e2d\u6587", "", "CATS"), numbersIn("n", 0, greatestNumber, -greatestNumber), textsIn("plain", "\u00c9t\u00e9 ete \u4e2d\u6587"), textsIn("tag", "\u4e2d", "7")),
		docWith("b", textsIn("grams", "x"), textsIn("plain", "a b c", "d e"), textsIn("tag", "blue"), numbersIn("year", -1900)),
	}
}
