package tests

import (
	"fmt"
	"math/rand"
	"slices"
	"strings"
	"testing"

	"loop.example/g00018/impl"
)

// What the document says of marks, explanations, suggestions and stored queries,
// told a second time: marks byte by byte, lines by the second telling of Meaning,
// suggestions by measuring every word, stored queries one by one.

// pathTo tells the numbers of the nodes above a node, the root first, and its own.
func pathTo(q impl.Query, at int) []int {
	for above, n := range q.Nodes {
		if slices.Contains(n.Kids, at) {
			return append(pathTo(q, above), at)
		}
	}
	return []int{at}
}

// askOf tells what a node asks of a term of a KText field.
func askOf(field impl.FieldDef, n impl.Node) func(term string) bool {
	text := n.Text
	if field.Analyzer.Fold && (n.Kind == impl.QPrefix || n.Kind == impl.QFuzzy) {
		text = foldedOf(text)
	}
	switch n.Kind {
	case impl.QTerm, impl.QPhrase:
		list, _ := termsOf(field.Analyzer, text)
		return func(term string) bool {
			return slices.ContainsFunc(list, func(own impl.Token) bool { return own.Text == term })
		}
	case impl.QPrefix:
		return func(term string) bool { return strings.HasPrefix(term, text) }
	case impl.QWild:
		return func(term string) bool { return fitsPattern(text, term) }
	case impl.QFuzzy:
		return func(term string) bool { return knownEdits([]rune(text), []rune(term)) <= n.Slop }
	}
	return func(string) bool { return false }
}

// asksOf tells what the nodes ask that are named on a field.
func asksOf(q impl.Query, field impl.FieldDef) []func(term string) bool {
	var list []func(term string) bool
	for i, n := range q.Nodes {
		barred := slices.ContainsFunc(pathTo(q, i), func(at int) bool { return q.Nodes[at].Role == impl.RoleNot })
		if !barred && (n.Field == "" || n.Field == field.Name) {
			list = append(list, askOf(field, n))
		}
	}
	return list
}

func markedText(field impl.FieldDef, text string, asks []func(term string) bool) string {
	in := make([]bool, len(text)+1) // whether a byte is in a marked word
	words, _ := impl.Break(text)
	for _, word := range words {
		terms, _ := wordTerms(field.Analyzer, ownText(field.Analyzer, word))
		asked := slices.ContainsFunc(terms, func(term string) bool {
			return slices.ContainsFunc(asks, func(ask func(term string) bool) bool { return ask(term) })
		})
		for at := word.From; asked && at < word.To; at++ {
			in[at] = true
		}
	}
	got := ""
	ahead := false
	for at := range len(text) + 1 {
		if in[at] && !ahead {
			got += "["
		}
		if !in[at] && ahead {
			got += "]"
		}
		ahead = in[at]
		if at < len(text) {
			got += text[at : at+1]
		}
	}
	return got
}

func highlightCode(s impl.Schema, d impl.Doc, field string, q impl.Query) int {
	if len(field) > 65536 {
		return impl.ErrLong
	}
	if !rightDoc(s, d) || !rightQuery(q) {
		return impl.ErrBad
	}
	def, ok := fieldOf(s, field)
	for _, n := range q.Nodes {
		_, there := fieldOf(s, n.Field)
		ok = ok && (n.Field == "" || there)
	}
	switch {
	case !ok:
		return impl.ErrField
	case def.Kind != impl.KText:
		return impl.ErrKind
	}
	return impl.OK
}

func highlightOf(s impl.Schema, d impl.Doc, field string, q impl.Query) ([]string, int) {
	if code := highlightCode(s, d, field, q); code != impl.OK {
		return nil, code
	}
	def, _ := fieldOf(s, field)
	var list []string
	for _, text := range textsHad(d, field) {
		list = append(list, markedText(def, text, asksOf(q, def)))
	}
	return list, impl.OK
}

func explainCode(s impl.Schema, docs []impl.Doc, q impl.Query, id string) int {
	if len(id) > 65536 {
		return impl.ErrLong
	}
	if code := meaningCode(s, docs, q); code != impl.OK {
		return code
	}
	if !slices.ContainsFunc(docs, func(d impl.Doc) bool { return d.Id == id }) {
		return impl.ErrMissing
	}
	return impl.OK
}

func explainOf(s impl.Schema, docs []impl.Doc, q impl.Query, id string) ([]string, int) {
	if code := explainCode(s, docs, q, id); code != impl.OK {
		return nil, code
	}
	return senseOf(s, docs).lines(q, id), impl.OK
}

// lines is for a document that is there.
func (m sense) lines(q impl.Query, id string) []string {
	m.q = q
	doc := slices.IndexFunc(m.docs, func(d impl.Doc) bool { return d.Id == id })
	var list []string
	for i, n := range q.Nodes {
		score, ok := m.node(i, doc)
		above := len(pathTo(q, i)) - 1
		sign := map[int]string{impl.RoleShould: "=", impl.RoleMust: "+", impl.RoleNot: "-"}[n.Role]
		list = append(list, fmt.Sprintf("%*s%s%d %s %d", 2*above, "", sign, n.Kind, map[bool]string{true: "yes", false: "no"}[ok], score))
	}
	return list
}

func suggestCode(words []string, text string, most int) int {
	if len(words) > 4096 || len(text) > 65536 {
		return impl.ErrLong
	}
	for _, one := range append(slices.Clone(words), text) {
		if _, ok := formOf(one); !ok {
			return impl.ErrForm
		}
	}
	if len([]rune(text)) > 200 || most < 0 || most > 20 {
		return impl.ErrRange
	}
	return impl.OK
}

// nearEdits measures no further where the lengths alone say that it is too far.
func nearEdits(a, b []rune) int {
	if apart := max(len(a)-len(b), len(b)-len(a)); apart > 2 {
		return apart
	}
	return knownEdits(a, b)
}

func suggestOf(words []string, text string, most int) ([]string, int) {
	if code := suggestCode(words, text, most); code != impl.OK {
		return nil, code
	}
	edits := map[string]int{}
	for _, word := range words {
		if list := []rune(word); len(list) <= 200 {
			edits[word] = nearEdits([]rune(text), list)
		}
	}
	told := make([]string, most)
	count := 0
	for word, n := range edits {
		place := 0
		for other, m := range edits {
			place += btoi(m < n || m == n && other < word)
		}
		if n <= 2 && place < most {
			told[place] = word
			count++
		}
	}
	return told[:count], impl.OK
}

func percolateCode(s impl.Schema, list []impl.Stored, d impl.Doc) int {
	if len(list) > 256 {
		return impl.ErrMany
	}
	code := meaningCode(s, []impl.Doc{d}, allLeaf().query())
	ids := map[string]int{}
	missing := 0
	for _, one := range list {
		ids[one.Id]++
		own := meaningCode(s, nil, one.Query)
		missing += btoi(own == impl.ErrField)
		if own == impl.ErrBad || !idForm.MatchString(one.Id) {
			code = impl.ErrBad
		}
	}
	switch {
	case code != impl.OK:
		return code
	case len(ids) < len(list):
		return impl.ErrExists
	case missing > 0:
		return impl.ErrField
	}
	return impl.OK
}

func percolateOf(s impl.Schema, list []impl.Stored, d impl.Doc) ([]string, int) {
	if code := percolateCode(s, list, d); code != impl.OK {
		return nil, code
	}
	alone := senseOf(s, []impl.Doc{d})
	var ids []string
	for _, one := range list {
		if len(alone.hits(one.Query)) > 0 {
			ids = append(ids, one.Id)
		}
	}
	slices.Sort(ids)
	return ids, impl.OK
}

func shortTexts(list []string) string {
	return cutOff(fmt.Sprintf("%q", list))
}

func wantHighlight(t *testing.T, s impl.Schema, d impl.Doc, field string, q impl.Query, want []string, wantCode int) {
	t.Helper()
	if list, code := impl.Highlight(s, d, field, q); code != wantCode || !slices.Equal(list, want) {
		t.Errorf("Highlight of %s by %s in %s: %s, code %d, want %s, code %d", short(field), cutOff(textOf(q)), shortDoc(d), shortTexts(list), code, shortTexts(want), wantCode)
	}
}

// wantSameHighlight holds an answer against the document's words.
func wantSameHighlight(t *testing.T, s impl.Schema, d impl.Doc, field string, q impl.Query) {
	t.Helper()
	want, code := highlightOf(s, d, field, q)
	wantHighlight(t, s, d, field, q, want, code)
}

// wantMarked wants the texts of a field t to be marked so, and the second telling
// to say so too. The texts are those that are wanted, without their brackets.
func wantMarked(t *testing.T, a impl.Analyzer, query string, want ...string) {
	t.Helper()
	s := schemaOf(textField("other", a), textField("t", a))
	var texts []string
	for _, text := range want {
		texts = append(texts, withoutMarks(text))
	}
	d := docWith("d", textsIn("t", texts...))
	q := queryOf(t, query)
	if own, code := highlightOf(s, d, "t", q); code != impl.OK || !slices.Equal(own, want) {
		t.Errorf("the second telling of %s: %s, code %d, want %s", query, shortTexts(own), code, shortTexts(want))
	}
	wantHighlight(t, s, d, "t", q, want, impl.OK)
}

// withoutMarks is for a text that has no brackets of its own.
func withoutMarks(text string) string {
	return strings.NewReplacer("[", "", "]", "").Replace(text)
}

func wantExplain(t *testing.T, s impl.Schema, docs []impl.Doc, q impl.Query, id string, want []string, wantCode int) {
	t.Helper()
	if list, code := impl.Explain(s, docs, q, id); code != wantCode || !slices.Equal(list, want) {
		t.Errorf("Explain of %s on %s: %s, code %d, want %s, code %d", cutOff(textOf(q)), short(id), shortTexts(list), code, shortTexts(want), wantCode)
	}
}

// wantSameExplain holds an answer against the document's words.
func wantSameExplain(t *testing.T, s impl.Schema, docs []impl.Doc, q impl.Query, id string) {
	t.Helper()
	want, code := explainOf(s, docs, q, id)
	wantExplain(t, s, docs, q, id, want, code)
}

// wantLines wants these lines, and the second telling to say so too.
func wantLines(t *testing.T, s impl.Schema, docs []impl.Doc, query, id string, want ...string) {
	t.Helper()
	q := queryOf(t, query)
	if own, code := explainOf(s, docs, q, id); code != impl.OK || !slices.Equal(own, want) {
		t.Errorf("the second telling of %s: %s, code %d, want %s", query, shortTexts(own), code, shortTexts(want))
	}
	wantExplain(t, s, docs, q, id, want, impl.OK)
}

func wantSuggest(t *testing.T, words []string, text string, most int, want []string, wantCode int) {
	t.Helper()
	if list, code := impl.Suggest(words, text, most); code != wantCode || !slices.Equal(list, want) {
		t.Errorf("Suggest of %s by %s, %d: %s, code %d, want %s, code %d", short(text), shortTexts(words), most, shortTexts(list), code, shortTexts(want), wantCode)
	}
}

// wantSameSuggest holds an answer against the document's words.
func wantSameSuggest(t *testing.T, words []string, text string, most int) {
	t.Helper()
	want, code := suggestOf(words, text, most)
	wantSuggest(t, words, text, most, want, code)
}

// wantNear wants these words, which are written with blanks between, and the
// second telling to say so too.
func wantNear(t *testing.T, words, text string, most int, want string) {
	t.Helper()
	list := strings.Fields(words)
	if own, code := suggestOf(list, text, most); code != impl.OK || !slices.Equal(own, strings.Fields(want)) {
		t.Errorf("the second telling of %s: %s, code %d, want %s", text, shortTexts(own), code, want)
	}
	wantSuggest(t, list, text, most, strings.Fields(want), impl.OK)
}

func wantPercolate(t *testing.T, s impl.Schema, list []impl.Stored, d impl.Doc, want []string, wantCode int) {
	t.Helper()
	if ids, code := impl.Percolate(s, list, d); code != wantCode || !slices.Equal(ids, want) {
		t.Errorf("Percolate of %s by %s: %s, code %d, want %s, code %d", shortDoc(d), shortStored(list), shortTexts(ids), code, shortTexts(want), wantCode)
	}
}

// wantSamePercolate holds an answer against the document's words.
func wantSamePercolate(t *testing.T, s impl.Schema, list []impl.Stored, d impl.Doc) {
	t.Helper()
	want, code := percolateOf(s, list, d)
	wantPercolate(t, s, list, d, want, code)
}

// wantFinders wants just these of the stored queries to be told, and the second
// telling to say so too.
func wantFinders(t *testing.T, s impl.Schema, list []impl.Stored, d impl.Doc, want string) {
	t.Helper()
	if own, code := percolateOf(s, list, d); code != impl.OK || strings.Join(own, " ") != want {
		t.Errorf("the second telling of %s: %s, code %d, want %s", shortDoc(d), shortTexts(own), code, want)
	}
	wantPercolate(t, s, list, d, strings.Fields(want), impl.OK)
}

func shortStored(list []impl.Stored) string {
	text := ""
	for _, one := range list {
		text += fmt.Sprintf("%q %s; ", one.Id, textOf(one.Query))
		if len(text) > 400 {
			break
		}
	}
	return cutOff(text)
}

// stored tells queries by pairs of an id and a text.
func stored(t *testing.T, pairs ...string) []impl.Stored {
	t.Helper()
	var list []impl.Stored
	for i := 0; i < len(pairs); i += 2 {
		list = append(list, impl.Stored{Id: pairs[i], Query: queryOf(t, pairs[i+1])})
	}
	return list
}

// randomStored tells some queries on scene, with ids in any order.
func randomStored(source *rand.Rand, most int) []impl.Stored {
	var list []impl.Stored
	for _, n := range source.Perm(source.Intn(most + 1)) {
		list = append(list, impl.Stored{Id: fmt.Sprintf("q%d", n), Query: randomSceneBranch(source, 3).query()})
	}
	return list
}

// changedText makes some changes at one text.
func changedText(source *rand.Rand, text, chars string, changes int) string {
	list, some := []rune(text), []rune(chars)
	for range changes {
		at, r := source.Intn(len(list)+1), some[source.Intn(len(some))]
		switch kind := source.Intn(3); {
		case kind == 0 || at == len(list):
			list = slices.Insert(list, at, r)
		case kind == 1:
			list = slices.Delete(list, at, at+1)
		default:
			list[at] = r
		}
	}
	return string(list)
}

// wantNearest wants told words to be the nearest of all, nearest first, by what
// Edits says.
func wantNearest(t *testing.T, words []string, text string, told []string) {
	t.Helper()
	edits := func(word string) int {
		n, code := impl.Edits(text, word)
		if code != impl.OK {
			return 1000
		}
		return n
	}
	ahead := func(a, b string) bool { return edits(a) < edits(b) || edits(a) == edits(b) && a < b }
	for i, word := range told {
		if edits(word) > 2 || !slices.Contains(words, word) || i > 0 && !ahead(told[i-1], word) {
			t.Errorf("%s, %d, of %s: %s", short(word), edits(word), short(text), shortTexts(told))
			return
		}
	}
	for _, word := range words {
		if edits(word) <= 2 && !slices.Contains(told, word) && (len(told) < 20 || ahead(word, told[len(told)-1])) {
			t.Errorf("%s, %d, of %s is not told: %s", short(word), edits(word), short(text), shortTexts(told))
			return
		}
	}
}
