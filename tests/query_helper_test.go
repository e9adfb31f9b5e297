package tests

import (
	"fmt"
	"regexp"
	"slices"
	"strconv"
	"strings"
	"testing"

	"loop.example/g00018/impl"
)

// What the document says of queries, told a second time: the parts of a node by
// regular expressions, trees by a stack of what is still to come, validity node
// by node with what the kind names wiped out.

const (
	wordPart   = `((?:[^ ()":^~\[\]+\-*?@\\]|\\.)+)`
	quotePart  = `"((?:[^"\\]|\\.)*)"`
	numberPart = `([0-9]{1,15})`
	endPart    = `(\*|-?[0-9]{1,15})`
)

var (
	wordSpecial  = regexp.MustCompile(`[ ()":^~\[\]+\-*?@\\]`)
	quoteSpecial = regexp.MustCompile(`["\\]`)

	headForm   = regexp.MustCompile(`^([+-]?)(?:([a-z][a-z0-9_]{0,29}):)?`)
	wordForm   = regexp.MustCompile(`(?s)^` + wordPart)
	starForm   = regexp.MustCompile(`^\*`)
	nearForm   = regexp.MustCompile(`^~` + numberPart + `?`)
	phraseForm = regexp.MustCompile(`(?s)^` + quotePart + `(?:~` + numberPart + `)?`)
	wildForm   = regexp.MustCompile(`(?s)^~` + quotePart)
	spanForm   = regexp.MustCompile(`^\[` + endPart + ` +` + endPart + `\]`)
	openForm   = regexp.MustCompile(`^\( *`)
	closeForm  = regexp.MustCompile(`^ *\)(?:@` + numberPart + `)?`)
	boostForm  = regexp.MustCompile(`^\^` + numberPart)
	blankForm  = regexp.MustCompile(`^ +`)
	pairForm   = regexp.MustCompile(`(?s)\\(.)`)
)

func rightQuery(q impl.Query) bool {
	return len(q.Nodes) <= 64 && rightTree(q, 8) && q.Nodes[0].Role == 0 && !slices.ContainsFunc(q.Nodes, wrongNode)
}

// rightTree tells whether the nodes stand in the order of the text, with at most
// nest one in the other.
func rightTree(q impl.Query, nest int) bool {
	type awaited struct{ node, nest int }
	stack := []awaited{{0, 1}}
	for i, n := range q.Nodes {
		if len(stack) == 0 {
			return false
		}
		top := stack[len(stack)-1]
		stack = stack[:len(stack)-1]
		if top.node != i || top.nest > nest {
			return false
		}
		for _, kid := range slices.Backward(n.Kids) {
			stack = append(stack, awaited{kid, top.nest + 1})
		}
	}
	return len(stack) == 0
}

func wrongNode(n impl.Node) bool {
	chars, form := formOf(n.Text[:min(len(n.Text), 65)])
	term := form && len(n.Text) >= 1 && len(n.Text) <= 64
	named := n.Field == "" || nameForm.MatchString(n.Field)
	rest := n
	rest.Field, rest.Text = "", ""
	right := false
	switch n.Kind {
	case 1, 3:
		right = term
	case 2:
		right = (n.Text == "" || term) && n.Slop >= 0 && n.Slop <= 20
		rest.Slop = 0
	case 4:
		right = term && rightPattern(n.Text)
	case 5:
		right = term && len(chars) <= 30 && (n.Slop == 1 || n.Slop == 2)
		rest.Slop = 0
	case 6:
		right = n.Field != "" && n.Lo >= -greatestNumber && n.Hi <= greatestNumber && n.Lo <= n.Hi
		rest.Text, rest.Lo, rest.Hi = n.Text, 0, 0
	case 7:
		right = true
		rest.Field, rest.Text = n.Field, n.Text
	case 8:
		right = len(n.Kids) > 0 && n.Min >= 0 && n.Min <= 64
		rest.Field, rest.Text, rest.Min, rest.Kids = n.Field, n.Text, 0, nil
	}
	rest.Kind, rest.Role, rest.Boost = 0, 0, 0
	return !right || !named || n.Role < 0 || n.Role > 2 || n.Boost < 1 || n.Boost > 99 || !sameNode(rest, impl.Node{})
}

func rightPattern(pattern string) bool {
	_, code := impl.Wildcard(pattern)
	return code == impl.OK
}

func sameNode(a, b impl.Node) bool {
	return numbersOf(a) == numbersOf(b) && a.Field == b.Field && a.Text == b.Text && slices.Equal(a.Kids, b.Kids)
}

func numbersOf(n impl.Node) [7]int {
	return [7]int{n.Kind, n.Role, n.Boost, n.Slop, n.Min, n.Lo, n.Hi}
}

func sameQuery(a, b impl.Query) bool {
	return slices.EqualFunc(a.Nodes, b.Nodes, sameNode)
}

func printOf(q impl.Query) (string, int) {
	if !rightQuery(q) {
		return "", impl.ErrBad
	}
	return nodeText(q, 0), impl.OK
}

func nodeText(q impl.Query, i int) string {
	n := q.Nodes[i]
	text := []string{"", "+", "-"}[n.Role]
	if n.Field != "" {
		text += n.Field + ":"
	}
	word := wordSpecial.ReplaceAllString(n.Text, `\$0`)
	quoted := `"` + quoteSpecial.ReplaceAllString(n.Text, `\$0`) + `"`
	switch n.Kind {
	case 1:
		text += word
	case 2:
		text += quoted + numberUnless("~", n.Slop, 0)
	case 3:
		text += word + "*"
	case 4:
		text += "~" + quoted
	case 5:
		text += fmt.Sprintf("%s~%d", word, n.Slop)
	case 6:
		span := fmt.Sprintf("[%d %d]", n.Lo, n.Hi)
		span = strings.Replace(span, "[-1000000000000 ", "[* ", 1)
		text += strings.Replace(span, " 1000000000000]", " *]", 1)
	case 7:
		text += "*"
	case 8:
		var kids []string
		for _, kid := range n.Kids {
			kids = append(kids, nodeText(q, kid))
		}
		text += "(" + strings.Join(kids, " ") + ")" + numberUnless("@", n.Min, 0)
	}
	return text + numberUnless("^", n.Boost, 1)
}

func numberUnless(sign string, n, meant int) string {
	if n == meant {
		return ""
	}
	return sign + strconv.Itoa(n)
}

// A reading is a text of which nodes are taken from the front.
type reading struct {
	rest  string
	nodes []impl.Node
	wrong bool
}

func parseOf(text string) (impl.Query, int) {
	if len(text) > 2000 {
		return impl.Query{}, impl.ErrLong
	}
	if _, ok := formOf(text); !ok {
		return impl.Query{}, impl.ErrForm
	}
	// As in brackets; if there is just one without a role, these are left out.
	r := reading{rest: strings.TrimLeft(text, " "), nodes: []impl.Node{{Kind: 8, Boost: 1}}}
	r.list(0)
	if r.wrong || strings.TrimLeft(r.rest, " ") != "" {
		return impl.Query{}, impl.ErrSyntax
	}
	q := impl.Query{Nodes: r.nodes}
	if len(q.Nodes[0].Kids) == 1 && q.Nodes[1].Role == 0 {
		q.Nodes = q.Nodes[1:]
		for _, n := range q.Nodes {
			for i := range n.Kids {
				n.Kids[i]--
			}
		}
	}
	if !rightTree(q, 8) {
		return impl.Query{}, impl.ErrDeep
	}
	if len(q.Nodes) > 64 {
		return impl.Query{}, impl.ErrMany
	}
	return q, impl.OK
}

// take tells what stands at the front, nil if it is not of the form.
func (r *reading) take(form *regexp.Regexp) []string {
	found := form.FindStringSubmatch(r.rest)
	if found != nil {
		r.rest = r.rest[len(found[0]):]
	}
	return found
}

// list takes the kids of a node.
func (r *reading) list(parent int) {
	for {
		r.nodes[parent].Kids = append(r.nodes[parent].Kids, len(r.nodes))
		r.node()
		ahead := r.rest
		if r.wrong || r.take(blankForm) == nil || r.rest == "" || r.rest[0] == ')' {
			r.rest = ahead
			return
		}
	}
}

func (r *reading) node() {
	head := r.take(headForm)
	at := len(r.nodes)
	n := impl.Node{Role: map[string]int{"": 0, "+": 1, "-": 2}[head[1]], Field: head[2]}
	r.nodes = append(r.nodes, n)
	if r.take(openForm) != nil {
		r.list(at)
		end := r.take(closeForm)
		if end == nil {
			r.wrong = true
			return
		}
		n.Kind, n.Min, n.Kids = 8, readNumber(end[1], 0), r.nodes[at].Kids
	} else {
		r.leaf(&n)
	}
	n.Boost = 1
	if m := r.take(boostForm); m != nil {
		n.Boost = readNumber(m[1], 1)
	}
	r.nodes[at] = n
	r.wrong = r.wrong || wrongNode(n)
}

func (r *reading) leaf(n *impl.Node) {
	if m := r.take(wordForm); m != nil {
		n.Kind, n.Text = 1, pairForm.ReplaceAllString(m[1], "$1")
		if r.take(starForm) != nil {
			n.Kind = 3
		} else if m := r.take(nearForm); m != nil {
			n.Kind, n.Slop = 5, readNumber(m[1], 1)
		}
	} else if m := r.take(phraseForm); m != nil {
		n.Kind, n.Text, n.Slop = 2, pairForm.ReplaceAllString(m[1], "$1"), readNumber(m[2], 0)
	} else if m := r.take(wildForm); m != nil {
		n.Kind, n.Text = 4, pairForm.ReplaceAllString(m[1], "$1")
	} else if m := r.take(spanForm); m != nil {
		n.Kind, n.Lo, n.Hi = 6, readNumber(m[1], -greatestNumber), readNumber(m[2], greatestNumber)
	} else if r.take(starForm) != nil {
		n.Kind = 7
	}
}

// readNumber tells what is meant if no number stands there.
func readNumber(digits string, meant int) int {
	if digits == "" || digits == "*" {
		return meant
	}
	n, err := strconv.Atoi(digits)
	if err != nil {
		panic(err)
	}
	return n
}

// A branch is a node with those below it, as a test tells them.
type branch struct {
	impl.Node
	below []branch
}

func leaf(n impl.Node) branch {
	if n.Boost == 0 {
		n.Boost = 1
	}
	return branch{Node: n}
}

func termLeaf(text string) branch {
	return leaf(impl.Node{Kind: impl.QTerm, Text: text})
}

func allLeaf() branch {
	return leaf(impl.Node{Kind: impl.QAll})
}

func group(below ...branch) branch {
	return branch{impl.Node{Kind: impl.QBool, Boost: 1}, below}
}

func (b branch) with(role int) branch {
	b.Role = role
	return b
}

func (b branch) atLeast(least int) branch {
	b.Min = least
	return b
}

func (b branch) boosted(boost int) branch {
	b.Boost = boost
	return b
}

func (b branch) query() impl.Query {
	var q impl.Query
	b.behind(&q)
	return q
}

func (b branch) behind(q *impl.Query) {
	at := len(q.Nodes)
	q.Nodes = append(q.Nodes, b.Node)
	for _, kid := range b.below {
		q.Nodes[at].Kids = append(q.Nodes[at].Kids, len(q.Nodes))
		kid.behind(q)
	}
}

// nested puts a branch into groups, n in each other.
func nested(n int, b branch) branch {
	for range n {
		b = group(b)
	}
	return b
}

func shortQuery(q impl.Query) string {
	return cutOff(fmt.Sprintf("%+v", q.Nodes))
}

func wantQuery(t *testing.T, q impl.Query, want bool) {
	t.Helper()
	if ok := impl.QueryOK(q); ok != want {
		t.Errorf("QueryOK of %s: %v", shortQuery(q), ok)
	}
	if right := rightQuery(q); right != want {
		t.Errorf("the second telling of %s: %v", shortQuery(q), right)
	}
	text, code := printOf(q)
	wantPrint(t, q, text, code)
	if want && len(text) <= 2000 {
		wantParse(t, text, q, impl.OK)
	}
}

// wantSameQuery holds a query against the second telling.
func wantSameQuery(t *testing.T, q impl.Query) {
	t.Helper()
	wantQuery(t, q, rightQuery(q))
}

func wantPrint(t *testing.T, q impl.Query, want string, wantCode int) {
	t.Helper()
	if text, code := impl.PrintQuery(q); text != want || code != wantCode {
		t.Errorf("PrintQuery of %s: %s, code %d, want %s, code %d", shortQuery(q), short(text), code, short(want), wantCode)
	}
}

func wantParse(t *testing.T, text string, want impl.Query, wantCode int) {
	t.Helper()
	if q, code := impl.ParseQuery(text); !sameQuery(q, want) || code != wantCode {
		t.Errorf("ParseQuery of %s: %s, code %d, want %s, code %d", short(text), shortQuery(q), code, shortQuery(want), wantCode)
	}
}

// wantSameParse holds the query of a text, also printed and back, against the
// second telling.
func wantSameParse(t *testing.T, text string) {
	t.Helper()
	q, code := parseOf(text)
	wantParse(t, text, q, code)
	if code == impl.OK {
		wantQuery(t, q, true)
	}
}

// wantReading holds a text against a query that is written out, and both against
// the second telling.
func wantReading(t *testing.T, text string, want branch) {
	t.Helper()
	q := want.query()
	wantParse(t, text, q, impl.OK)
	wantQuery(t, q, true)
	wantSameParse(t, text)
}

func wantNoQuery(t *testing.T, text string, code int) {
	t.Helper()
	wantParse(t, text, impl.Query{}, code)
	wantSameParse(t, text)
}
