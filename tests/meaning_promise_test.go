package tests

import (
	"fmt"
	"math/rand"
	"slices"
	"strings"
	"testing"

	"loop.example/g00018/impl"
)

// What randomSense picks from: words that meet each other, and their likes.
var sceneWords = strings.Fields("cat cats Cat dog dogs pet feline the of running run red blue ab abc bca a b c x \u00c9t\u00e9 ete \u4e2d\u6587 5 7 -5")

func randomWords(source *rand.Rand, most int) string {
	var list []string
	for range 1 + source.Intn(most) {
		list = append(list, sceneWords[source.Intn(len(sceneWords))])
	}
	return strings.Join(list, []string{" ", "  ", ", ", "-"}[source.Intn(4)])
}

func randomSceneDoc(source *rand.Rand, id string) impl.Doc {
	d := docWith(id)
	for _, field := range scene().Fields {
		v := impl.Value{Field: field.Name}
		for range source.Intn(3) {
			switch field.Kind {
			case impl.KNumber:
				v.Numbers = append(v.Numbers, source.Intn(15)-7)
			case impl.KWord:
				v.Texts = append(v.Texts, randomWords(source, 2))
			default:
				v.Texts = append(v.Texts, randomWords(source, 6))
			}
		}
		if len(v.Texts)+len(v.Numbers) > 0 {
			d.Values = append(d.Values, v)
		}
	}
	return d
}

func randomSceneDocs(source *rand.Rand) []impl.Doc {
	var docs []impl.Doc
	for i := range source.Intn(9) {
		docs = append(docs, randomSceneDoc(source, fmt.Sprint((7*i+3)%10)))
	}
	return docs
}

func randomSceneBranch(source *rand.Rand, nest int) branch {
	n := impl.Node{Kind: 1 + source.Intn(8), Boost: 1 + source.Intn(2)*source.Intn(99)}
	if n.Kind < impl.QAll && (n.Kind == impl.QRange || source.Intn(2) == 0) {
		n.Field = scene().Fields[source.Intn(6)].Name
	}
	switch n.Kind {
	case impl.QTerm:
		n.Text = randomWords(source, 1)
	case impl.QPhrase:
		n.Text, n.Slop = randomWords(source, 3), source.Intn(4)
	case impl.QPrefix:
		n.Text = string([]rune(randomWords(source, 1))[:1])
	case impl.QWild:
		n.Text = []string{"*", "?", "c*", "?a*", "*e*", "???", `\*`, "C*"}[source.Intn(8)]
	case impl.QFuzzy:
		n.Text, n.Slop = randomWords(source, 1), 1+source.Intn(2)
	case impl.QRange:
		n.Lo = source.Intn(15) - 7
		n.Hi = n.Lo + source.Intn(5)
	case impl.QBool:
		if nest == 1 {
			return allLeaf()
		}
		n.Min = source.Intn(2) * source.Intn(3)
		b := branch{Node: n}
		for range 1 + source.Intn(4) {
			b.below = append(b.below, randomSceneBranch(source, nest-1).with([]int{should, should, must, mustNot}[source.Intn(4)]))
		}
		return b
	}
	return leaf(n)
}

func TestMeaningOfRandomQueries(t *testing.T) {
	source := rand.New(rand.NewSource(10))
	matched := 0
	for range 150 {
		m := senseOf(scene(), randomSceneDocs(source))
		for range 15 {
			q := randomSceneBranch(source, 4).query()
			m.wantHits(t, q)
			matched += btoi(len(m.hits(q)) > 0)
		}
	}
	if matched < 800 {
		t.Errorf("only %d queries match anything", matched)
	}
}

// In brackets, with other blanks, printed, and within others that change nothing.
func TestMeaningOfTheSameQueryWritten(t *testing.T) {
	source := rand.New(rand.NewSource(11))
	for range 300 {
		docs := randomSceneDocs(source)
		b := randomSceneBranch(source, 4)
		want, code := impl.Meaning(scene(), docs, b.query())
		if code != impl.OK {
			t.Fatalf("code %d", code)
		}
		text, _ := impl.PrintQuery(b.query())
		for _, other := range []string{text, "(" + text + ")", "  ((" + text + " )  )", "+" + text, "( +" + text + ")", "(" + text + ")@1", text + strings.Repeat(" ", 30)} {
			wantMeaning(t, scene(), docs, queryOf(t, other), want, impl.OK)
		}
		for _, other := range []branch{group(b), group(b.with(must)), group(group(b).with(must)), group(b).atLeast(1), group(b, leaf(impl.Node{Kind: impl.QPhrase})), group(b.with(must), leaf(impl.Node{Kind: impl.QPhrase}).with(mustNot))} {
			wantMeaning(t, scene(), docs, other.query(), want, impl.OK)
		}
	}
}

func TestMeaningOfOtherBlanks(t *testing.T) {
	docs := sceneDocs()
	for text, other := range map[string]string{
		"cat dog": "   cat      dog ", "+(cat dog)@1 -blue": "+(  cat dog   )@1    -blue", "n:[1 9] *": " n:[1    9]   *  ", `"cat dog"`: `  "cat   dog"  `, "(cat)": "( cat )", "body:cat^2 (-x)": "body:cat^2   (   -x)",
	} {
		want, code := impl.Meaning(scene(), docs, queryOf(t, text))
		wantMeaning(t, scene(), docs, queryOf(t, other), want, code)
		wantSameMeaning(t, scene(), docs, queryOf(t, other))
	}
}

// reordered tells a node with its kids, and those below, in another order.
func reordered(source *rand.Rand, b branch) branch {
	b.below = slices.Clone(b.below)
	for i, kid := range b.below {
		b.below[i] = reordered(source, kid)
	}
	source.Shuffle(len(b.below), func(i, j int) { b.below[i], b.below[j] = b.below[j], b.below[i] })
	return b
}

func TestMeaningOfKidsInAnotherOrder(t *testing.T) {
	source := rand.New(rand.NewSource(12))
	for range 300 {
		docs := randomSceneDocs(source)
		b := group(randomSceneBranch(source, 3), randomSceneBranch(source, 3).with(source.Intn(3)), randomSceneBranch(source, 3).with(source.Intn(3)), randomSceneBranch(source, 2))
		want, code := impl.Meaning(scene(), docs, b.query())
		for range 5 {
			wantMeaning(t, scene(), docs, reordered(source, b).query(), want, code)
		}
		source.Shuffle(len(docs), func(i, j int) { docs[i], docs[j] = docs[j], docs[i] })
		wantMeaning(t, scene(), docs, b.query(), want, code)
	}
}

// A document more, wherever it stands, changes scores, but not which match.
func TestMeaningWithOneDocMore(t *testing.T) {
	source := rand.New(rand.NewSource(13))
	for range 400 {
		docs := randomSceneDocs(source)
		q := randomSceneBranch(source, 4).query()
		ahead, _ := impl.Meaning(scene(), docs, q)
		more := slices.Insert(slices.Clone(docs), source.Intn(len(docs)+1), randomSceneDoc(source, "more"))
		list, code := impl.Meaning(scene(), more, q)
		list = slices.DeleteFunc(list, func(h impl.Hit) bool { return h.Id == "more" })
		if code != impl.OK || idsOf(list) != idsOf(ahead) {
			t.Errorf("%s: %s, with one more %s, code %d", textOf(q), idsOf(ahead), idsOf(list), code)
		}
		// So each matches alone if it does among all.
		for _, d := range docs {
			alone, _ := impl.Meaning(scene(), []impl.Doc{d}, q)
			among := slices.ContainsFunc(ahead, func(h impl.Hit) bool { return h.Id == d.Id })
			if (len(alone) == 1) != among {
				t.Errorf("%s: %s alone: %v, among all: %v", textOf(q), d.Id, alone, among)
			}
		}
	}
}

// Terms that come of analysers of all kinds.
func TestMeaningOfRandomAnalyzers(t *testing.T) {
	source := rand.New(rand.NewSource(14))
	for range 60 {
		s := schemaOf(textField("a", randomAnalyzer(source)), textField("b", randomAnalyzer(source)), wordField("w"))
		var docs []impl.Doc
		for i := range 5 {
			d := randomDoc(source, s)
			d.Id = fmt.Sprint(i)
			if rightDoc(s, d) {
				docs = append(docs, d)
			}
		}
		m := senseOf(s, docs)
		for range 12 {
			n := impl.Node{Kind: 1 + source.Intn(5), Field: []string{"", "a", "b", "w"}[source.Intn(4)], Text: wordStock[source.Intn(len(wordStock))]}
			switch n.Kind {
			case impl.QPhrase:
				n.Text, n.Slop = randomText(source), source.Intn(4)
			case impl.QPrefix:
				n.Text = string([]rune(n.Text)[:1])
			case impl.QFuzzy:
				n.Slop = 1 + source.Intn(2)
			}
			if q := leaf(n).query(); rightQuery(q) {
				m.wantHits(t, q)
			}
		}
	}
}
