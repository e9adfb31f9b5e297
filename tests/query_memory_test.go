package tests

import (
	"reflect"
	"strings"
	"testing"

	"loop.example/g00018/impl"
)

// sampleQueries are valid and others, with lists of all lengths.
func sampleQueries() []impl.Query {
	list := []impl.Query{{}, group().query(), nested(9, allLeaf()).query(), {Nodes: []impl.Node{{Kind: impl.QBool, Boost: 1, Kids: []int{2, 1}}, allLeaf().Node, allLeaf().Node}}}
	for _, b := range oneNode() {
		list = append(list, b.query(), group(b.with(must), group(b, b)).query(), b.with(mustNot).query())
	}
	return list
}

func TestQueryCallsLeaveTheirArguments(t *testing.T) {
	for _, q := range sampleQueries() {
		q := roomyCopy(q)
		before := wholeCopy(q)
		impl.QueryOK(q)
		impl.PrintQuery(q)
		if !reflect.DeepEqual(wholeCopy(q), before) {
			t.Errorf("a call wrote into %s", shortQuery(q))
		}
	}
}

func TestQueryAnswersNewMemory(t *testing.T) {
	for _, q := range sampleQueries() {
		q := copyOf(q)
		for i, n := range q.Nodes {
			q.Nodes[i].Field, q.Nodes[i].Text = strings.Clone(n.Field), strings.Clone(n.Text)
		}
		text, code := impl.PrintQuery(q)
		wantOwnMemory(t, "PrintQuery", text, q)
		if code != impl.OK {
			continue
		}
		text = strings.Clone(text)
		first, _ := impl.ParseQuery(text)
		second, _ := impl.ParseQuery(text)
		wantOwnMemory(t, "ParseQuery", first, text, q)
		first.Nodes, second.Nodes = withoutTexts(first.Nodes), withoutTexts(second.Nodes)
		wantOwnMemory(t, "ParseQuery twice", first, second)
	}
	for text := range oneNode() {
		for _, text := range []string{text, "+" + text, text + " -" + text, "   " + text} {
			text = strings.Clone(text)
			q, code := impl.ParseQuery(text)
			if code != impl.OK {
				t.Errorf("%s: code %d", text, code)
			}
			wantOwnMemory(t, "ParseQuery", q, text)
		}
	}
}

// withoutTexts is for two answers: a text of one byte is the same memory in each
// of them, which nobody can write into.
func withoutTexts(nodes []impl.Node) []impl.Node {
	for i := range nodes {
		nodes[i].Field, nodes[i].Text = "", ""
	}
	return nodes
}

// What is appended to one list, or written into it, is to be seen in no other.
func TestQueryListsApart(t *testing.T) {
	want := group(group(allLeaf(), allLeaf()), group(termLeaf("a")), termLeaf("b").with(must)).query()
	q, _ := impl.ParseQuery("((* *) (a) +b)")
	for i := range q.Nodes {
		_ = append(q.Nodes[i].Kids, -1)
	}
	_ = append(q.Nodes, impl.Node{})
	if !sameQuery(q, want) {
		t.Errorf("%s, want %s", shortQuery(q), shortQuery(want))
	}
	q.Nodes[0].Kids[0], q.Nodes[1].Kids[1], q.Nodes[2].Kind = 9, 9, 9
	wantParse(t, "((* *) (a) +b)", want, impl.OK)
}
