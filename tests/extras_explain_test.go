package tests

import (
	"fmt"
	"math/rand"
	"slices"
	"strings"
	"testing"

	"loop.example/g00018/impl"
)

// hutch are documents of small of which one has all that is asked for below, and
// the others some of it or nothing.
func hutch() []impl.Doc {
	return []impl.Doc{
		docWith("a", numbersIn("n", 5), textsIn("t", "cat"), textsIn("w", "red")),
		docWith("b", numbersIn("n", 7)),
		docWith("c"),
	}
}

func TestExplainOfEachKind(t *testing.T) {
	one := hutch()[:1]
	for query, want := range map[string]string{
		"cat": "=1 yes 424", "dog": "=1 no 0", "t:cat": "=1 yes 424", "w:red": "=1 yes 424", "w:cat": "=1 no 0", "n:5": "=1 yes 1024", "n:6": "=1 no 0", "n:cat": "=1 no 0",
		`"cat"`: "=2 yes 424", `"cat dog"`: "=2 no 0", `""`: "=2 no 0", `n:"5"`: "=2 yes 1024", `w:"red"~3`: "=2 yes 424",
		"c*": "=3 yes 1024", "d*": "=3 no 0", "w:re*": "=3 yes 1024", "n:5*": "=3 no 0",
		`~"*"`: "=4 yes 1024", `~"d*"`: "=4 no 0", `w:~"r?d"`: "=4 yes 1024", "cot~": "=5 yes 1024", "cot~2": "=5 yes 1024", "dog~2": "=5 no 0", "dot~1": "=5 no 0",
		"n:[1 9]": "=6 yes 1024", "n:[6 9]": "=6 no 0", "t:[* *]": "=6 no 0", "*": "=7 yes 1024",
		"cat^3": "=1 yes 1272", "*^99": "=7 yes 101376", "dog^99": "=1 no 0", "n:[5 5]^2": "=6 yes 2048",
	} {
		wantLines(t, small(), one, query, "a", want)
	}
}

// Each line has the sign of its role, the blanks of its depth, and tells of its
// node whatever those beside it and above it do.
func TestExplainOfRolesAndNodesBelow(t *testing.T) {
	docs := hutch()
	for _, c := range []struct {
		query, id string
		want      []string
	}{
		{"* n:5", "a", []string{"=8 yes 2048", "  =7 yes 1024", "  =1 yes 1024"}},
		{"* n:5", "b", []string{"=8 yes 1024", "  =7 yes 1024", "  =1 no 0"}},
		{"+* +n:5", "b", []string{"=8 no 0", "  +7 yes 1024", "  +1 no 0"}},
		{"+n:7^2 -* c*", "b", []string{"=8 no 0", "  +1 yes 2048", "  -7 yes 1024", "  =3 no 0"}},
		{"-n:5", "a", []string{"=8 no 0", "  -1 yes 1024"}},
		{"-n:5", "b", []string{"=8 yes 0", "  -1 no 0"}},
		{"-n:5", "c", []string{"=8 yes 0", "  -1 no 0"}},
		{"+n:9", "a", []string{"=8 no 0", "  +1 no 0"}},
		{"(* *)^3", "c", []string{"=8 yes 6144", "  =7 yes 1024", "  =7 yes 1024"}},
		{"(* *)@3", "c", []string{"=8 no 0", "  =7 yes 1024", "  =7 yes 1024"}},
		{"(* n:5)@2", "a", []string{"=8 yes 2048", "  =7 yes 1024", "  =1 yes 1024"}},
		{"(* n:5)@2", "c", []string{"=8 no 0", "  =7 yes 1024", "  =1 no 0"}},
		{"* -(n:5 (w:red -*)^2)^4", "c", []string{"=8 yes 1024", "  =7 yes 1024", "  -8 no 0", "    =1 no 0", "    =8 no 0", "      =1 no 0", "      -7 yes 1024"}},
		{"* -(n:5 (n:[4 6] -n:9)^2)^4", "a", []string{"=8 no 0", "  =7 yes 1024", "  -8 yes 12288", "    =1 yes 1024", "    =8 yes 2048", "      =6 yes 1024", "      -1 no 0"}},
		{"-(-(-*))", "a", []string{"=8 no 0", "  -8 yes 0", "    -8 no 0", "      -7 yes 1024"}},
		{"(+(-(+*^7)))", "b", []string{"=8 no 0", "  +8 no 0", "    -8 yes 7168", "      +7 yes 7168"}},
		// A node that does not match has no score, though what is below it has.
		{"(+n:1 *^9)^9 n:7", "b", []string{"=8 yes 1024", "  =8 no 0", "    +1 no 0", "    =7 yes 9216", "  =1 yes 1024"}},
	} {
		wantLines(t, small(), docs, c.query, c.id, c.want...)
	}
}

func TestExplainAsDeepAsCanBe(t *testing.T) {
	var want []string
	for above := range 7 {
		want = append(want, strings.Repeat("  ", above)+"=8 yes 1024")
	}
	want = append(want, strings.Repeat(" ", 14)+"=7 yes 1024")
	wantExplain(t, small(), hutch(), nested(7, allLeaf()).query(), "c", want, impl.OK)
	wantSameExplain(t, small(), hutch(), nested(7, allLeaf()).query(), "c")
	// As many nodes as can be, each beside the others.
	b := group()
	want = []string{"=8 yes 64512"}
	for range 63 {
		b.below = append(b.below, allLeaf())
		want = append(want, "  =7 yes 1024")
	}
	wantExplain(t, small(), hutch(), b.query(), "a", want, impl.OK)
	// Scores are cut as those of Meaning are.
	b = nested(7, allLeaf().boosted(99))
	for below := &b; len(below.below) > 0; below = &below.below[0] {
		below.Boost = 99
	}
	lines, code := impl.Explain(small(), hutch(), b.query(), "a")
	if code != impl.OK || lines[0] != "=8 yes 1000000000000" || strings.TrimSpace(lines[6]) != "=8 yes 10036224" {
		t.Errorf("%s, code %d", shortTexts(lines), code)
	}
	wantSameExplain(t, small(), hutch(), b.query(), "a")
}

// Scores hang on all documents, also on those that come behind.
func TestExplainAmongOthers(t *testing.T) {
	docs := sceneDocs()
	m := senseOf(scene(), docs)
	for _, text := range kindTexts() {
		q := queryOf(t, text)
		for _, d := range docs {
			wantExplain(t, scene(), docs, q, d.Id, m.lines(q, d.Id), impl.OK)
		}
	}
	alone, _ := impl.Explain(scene(), docs[:1], queryOf(t, "body:cat"), "d1")
	among, _ := impl.Explain(scene(), docs, queryOf(t, "body:cat"), "d1")
	if slices.Equal(alone, among) {
		t.Errorf("%s alone and among others", shortTexts(alone))
	}
}

func TestExplainOfRandomQueries(t *testing.T) {
	source := rand.New(rand.NewSource(39))
	yes, no := 0, 0
	for range 120 {
		docs := randomSceneDocs(source)
		m := senseOf(scene(), docs)
		for range 6 {
			q := randomSceneBranch(source, 4).query()
			for _, d := range docs {
				want := m.lines(q, d.Id)
				wantExplain(t, scene(), docs, q, d.Id, want, impl.OK)
				yes += btoi(strings.Contains(want[0], "yes"))
				no += btoi(strings.Contains(want[0], "no"))
			}
		}
	}
	if yes < 300 || no < 300 {
		t.Errorf("%d match, %d do not", yes, no)
	}
}

func TestExplainOfMissingIds(t *testing.T) {
	for _, id := range []string{"", "z", "A", "aa", "a ", " a", "\xff", strings.Repeat("a", 30), strings.Repeat("a", 31), strings.Repeat("a", 65536)} {
		wantExplain(t, small(), hutch(), queryOf(t, "cat"), id, nil, impl.ErrMissing)
		wantExplain(t, small(), nil, queryOf(t, "*"), id, nil, impl.ErrMissing)
		wantSameExplain(t, small(), hutch(), queryOf(t, "cat"), id)
	}
	wantExplain(t, small(), hutch(), queryOf(t, "cat"), strings.Repeat("a", 65537), nil, impl.ErrLong)
	wantExplain(t, small(), nil, queryOf(t, "cat"), strings.Repeat("a", 65537), nil, impl.ErrLong)
	wantExplain(t, small(), nil, queryOf(t, "*"), "a", nil, impl.ErrMissing)
}

// Each of as many documents as can be.
func TestExplainOfManyDocs(t *testing.T) {
	docs := numbered(513)
	for i := range docs {
		docs[i].Values = []impl.Value{numbersIn("n", i)}
	}
	for _, at := range []int{0, 1, 255, 256, 510, 511} {
		wantLines(t, small(), docs[:512], fmt.Sprintf("n:[%d *] n:%d", at, at), docs[at].Id, "=8 yes 2048", "  =6 yes 1024", "  =1 yes 1024")
	}
	wantExplain(t, small(), docs[:512], queryOf(t, "*"), docs[512].Id, nil, impl.ErrMissing)
	wantExplain(t, small(), docs, queryOf(t, "*"), docs[0].Id, nil, impl.ErrMany)
	wantExplain(t, small(), docs, queryOf(t, "*"), "", nil, impl.ErrMany)
}
