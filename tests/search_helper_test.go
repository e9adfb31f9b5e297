package tests

import (
	"fmt"
	"math/rand"
	"slices"
	"testing"

	"loop.example/g00018/impl"
)

// What the document says of searching, told a second time: all hits of the second
// telling of Meaning, each left or not by a look at every other one, and told at
// the place that is the number of those ahead of it.

const noKey = 1000*1000*1000*1000 + 1

// rowOf tells what a hit is sorted by ahead of its id, as numbers that rise.
func rowOf(f impl.Found, keys []impl.SortKey) []int {
	var row []int
	for i, n := range f.Keys {
		switch {
		case n == noKey:
			row = append(row, 1, 0)
		case keys[i].Down:
			row = append(row, 0, ^n)
		default:
			row = append(row, 0, n)
		}
	}
	return append(row, ^f.Score)
}

func isAhead(f, other impl.Found, keys []impl.SortKey) bool {
	if c := slices.Compare(rowOf(f, keys), rowOf(other, keys)); c != 0 {
		return c < 0
	}
	return f.Id < other.Id
}

func keysOf(d impl.Doc, keys []impl.SortKey) []int {
	var list []int
	for _, key := range keys {
		best := noKey
		for _, v := range d.Values {
			for _, n := range v.Numbers {
				if v.Field == key.Field && (best == noKey || key.Down && n > best || !key.Down && n < best) {
					best = n
				}
			}
		}
		list = append(list, best)
	}
	return list
}

// firstIn tells the first text of a document in a field, with a sign ahead, and
// its id without it if there is none: so none is like another.
func firstIn(d impl.Doc, field string) string {
	for _, v := range d.Values {
		if v.Field == field && len(v.Texts) > 0 {
			return " " + v.Texts[0]
		}
	}
	return d.Id
}

// pageOf tells the answer when these are the hits of Meaning.
func pageOf(docs []impl.Doc, hits []impl.Hit, a impl.Ask) impl.Result {
	var all []impl.Found
	first := map[string]string{}
	for _, h := range hits {
		at := slices.IndexFunc(docs, func(d impl.Doc) bool { return d.Id == h.Id })
		all = append(all, impl.Found{Id: h.Id, Score: h.Score, Keys: keysOf(docs[at], a.Sort)})
		first[h.Id] = firstIn(docs[at], a.Collapse)
	}
	var left []impl.Found
	for _, f := range all {
		better := func(g impl.Found) bool { return first[f.Id] == first[g.Id] && isAhead(g, f, a.Sort) }
		behind := !a.Behind || isAhead(a.Last, f, a.Sort)
		if behind && (a.Collapse == "" || !slices.ContainsFunc(all, better)) {
			left = append(left, f)
		}
	}
	told := make([]impl.Found, min(a.Size, max(0, len(left)-a.From)))
	for _, f := range left {
		place := -a.From
		for _, g := range left {
			place += btoi(isAhead(g, f, a.Sort))
		}
		if 0 <= place && place < a.Size {
			told[place] = f
		}
	}
	return impl.Result{Total: len(all), Hits: told}
}

func searchCode(s impl.Schema, segs [][]impl.Doc, a impl.Ask) int {
	if len(segs) > 16 || slices.ContainsFunc(segs, func(docs []impl.Doc) bool { return len(docs) > 256 }) {
		return impl.ErrMany
	}
	if code := meaningCode(s, slices.Concat(segs...), a.Query); code != impl.OK {
		return code
	}
	if min(a.From, a.Size) < 0 || max(a.From, a.Size) > 1000 || len(a.Sort) > 4 {
		return impl.ErrRange
	}
	missing, unlike := 0, 0
	look := func(name string, kind int) {
		def, ok := fieldOf(s, name)
		missing += btoi(!ok)
		unlike += btoi(def.Kind != kind)
	}
	for _, key := range a.Sort {
		look(key.Field, impl.KNumber)
	}
	if a.Collapse != "" {
		look(a.Collapse, impl.KWord)
	}
	switch {
	case missing > 0:
		return impl.ErrField
	case unlike > 0:
		return impl.ErrKind
	case a.Behind && len(a.Last.Keys) != len(a.Sort):
		return impl.ErrRange
	}
	return impl.OK
}

func searchOf(s impl.Schema, segs [][]impl.Doc, a impl.Ask) (impl.Result, int) {
	if code := searchCode(s, segs, a); code != impl.OK {
		return impl.Result{}, code
	}
	docs := slices.Concat(segs...)
	return pageOf(docs, senseOf(s, docs).hits(a.Query), a), impl.OK
}

func searchTextOf(s impl.Schema, docs []impl.Doc, text string, size int) ([]impl.Hit, int) {
	if len(docs) > 512 {
		return nil, impl.ErrMany
	}
	q, code := parseOf(text)
	if code != impl.OK {
		return nil, code
	}
	hits, code := meaningOf(s, docs, q)
	if code != impl.OK {
		return nil, code
	}
	if size < 0 || size > 1000 {
		return nil, impl.ErrRange
	}
	return hits[:min(size, len(hits))], impl.OK
}

func sameFound(f, g impl.Found) bool {
	return f.Id == g.Id && f.Score == g.Score && slices.Equal(f.Keys, g.Keys)
}

func sameResult(r, want impl.Result) bool {
	return r.Total == want.Total && slices.EqualFunc(r.Hits, want.Hits, sameFound)
}

func shortResult(r impl.Result) string {
	return cutOff(fmt.Sprintf("%v", r))
}

func shortAsk(a impl.Ask) string {
	text := textOf(a.Query)
	a.Query = impl.Query{}
	return cutOff(text) + " " + cutOff(fmt.Sprintf("%+v", a))
}

func wantSearch(t *testing.T, s impl.Schema, segs [][]impl.Doc, a impl.Ask, want impl.Result, wantCode int) {
	t.Helper()
	if r, code := impl.Search(s, segs, a); code != wantCode || !sameResult(r, want) {
		t.Errorf("Search of %s: %s, code %d, want %s, code %d", shortAsk(a), shortResult(r), code, shortResult(want), wantCode)
	}
}

// wantSameSearch holds an answer against the document's words.
func wantSameSearch(t *testing.T, s impl.Schema, segs [][]impl.Doc, a impl.Ask) {
	t.Helper()
	want, code := searchOf(s, segs, a)
	wantSearch(t, s, segs, a, want, code)
}

// wantTold wants a search to tell just these ids, with this Total, and the second
// telling to say so too.
func wantTold(t *testing.T, s impl.Schema, segs [][]impl.Doc, a impl.Ask, total int, ids string) {
	t.Helper()
	r, code := impl.Search(s, segs, a)
	if code != impl.OK || r.Total != total || toldIds(r.Hits) != ids {
		t.Errorf("Search of %s: %s, code %d, want the ids %q of %d", shortAsk(a), shortResult(r), code, ids, total)
	}
	wantSameSearch(t, s, segs, a)
}

// toldIds tells the ids in the order of the hits, with a blank between each two.
func toldIds(list []impl.Found) string {
	text := ""
	for i, f := range list {
		if i > 0 {
			text += " "
		}
		text += f.Id
	}
	return text
}

// mustSearch is for what can be asked.
func mustSearch(t *testing.T, s impl.Schema, segs [][]impl.Doc, a impl.Ask) impl.Result {
	t.Helper()
	r, code := impl.Search(s, segs, a)
	if code != impl.OK {
		t.Fatalf("Search of %s: code %d", shortAsk(a), code)
	}
	return r
}

func up(fields ...string) []impl.SortKey {
	var keys []impl.SortKey
	for _, field := range fields {
		keys = append(keys, impl.SortKey{Field: field})
	}
	return keys
}

func down(fields ...string) []impl.SortKey {
	keys := up(fields...)
	for i := range keys {
		keys[i].Down = true
	}
	return keys
}

func last(id string, score int, keys ...int) impl.Found {
	return impl.Found{Id: id, Score: score, Keys: keys}
}

func oneSegment(docs []impl.Doc) [][]impl.Doc {
	return [][]impl.Doc{docs}
}

// cutAt tells documents in segments of these sizes, and the rest in one more.
func cutAt(docs []impl.Doc, sizes ...int) [][]impl.Doc {
	var segs [][]impl.Doc
	for _, size := range sizes {
		segs = append(segs, docs[:size])
		docs = docs[size:]
	}
	return append(segs, docs)
}

// randomCut tells documents in some order, in some segments, of which some are
// empty.
func randomCut(source *rand.Rand, docs []impl.Doc) [][]impl.Doc {
	docs = slices.Clone(docs)
	source.Shuffle(len(docs), func(i, j int) { docs[i], docs[j] = docs[j], docs[i] })
	segs := make([][]impl.Doc, 1+source.Intn(16))
	for _, d := range docs {
		at := source.Intn(len(segs))
		segs[at] = append(segs[at], d)
	}
	return segs
}

// stockDocs tells documents of scene with few different words, tags and numbers,
// so that many of them are alike in some of these.
func stockDocs(source *rand.Rand, n int) []impl.Doc {
	pick := func(list ...string) string { return list[source.Intn(len(list))] }
	var docs []impl.Doc
	for i := range n {
		d := docWith(fmt.Sprintf("%c%d", 'a'+source.Intn(3), i))
		for _, field := range scene().Fields {
			v := impl.Value{Field: field.Name}
			for range source.Intn(3) {
				switch field.Kind {
				case impl.KNumber:
					v.Numbers = append(v.Numbers, source.Intn(5)-2)
				case impl.KWord:
					v.Texts = append(v.Texts, pick("red", "blue", "x"))
				default:
					v.Texts = append(v.Texts, pick("cat", "dog", "the cat", "a pet", "cat dog", "ab x", "cat cat"))
				}
			}
			if len(v.Texts)+len(v.Numbers) > 0 {
				d.Values = append(d.Values, v)
			}
		}
		docs = append(docs, d)
	}
	return docs
}

func randomKeys(source *rand.Rand) []impl.SortKey {
	var keys []impl.SortKey
	for range source.Intn(4) {
		keys = append(keys, impl.SortKey{Field: []string{"n", "year"}[source.Intn(2)], Down: source.Intn(2) == 0})
	}
	return keys
}

// randomAsk is for documents of scene; Last is sometimes a hit.
func randomAsk(source *rand.Rand, docs []impl.Doc, q impl.Query) impl.Ask {
	a := impl.Ask{Query: q, From: source.Intn(2) * source.Intn(5), Size: source.Intn(12), Sort: randomKeys(source)}
	if source.Intn(2) == 0 {
		a.Collapse = "tag"
	}
	if source.Intn(2) == 0 && len(docs) > 0 {
		d := docs[source.Intn(len(docs))]
		a.Behind, a.Last = true, last(d.Id, []int{0, 1024, 2048, 300}[source.Intn(4)], keysOf(d, a.Sort)...)
		if hits, _ := impl.Meaning(scene(), docs, q); len(hits) > 0 && source.Intn(3) > 0 {
			a.Last = pageOf(docs, hits, impl.Ask{Sort: a.Sort, Size: 1, From: source.Intn(len(hits))}).Hits[0]
		}
	}
	return a
}
