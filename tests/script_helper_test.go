package tests

import (
	"fmt"
	"math/rand"
	"regexp"
	"strconv"
	"strings"
	"testing"

	"loop.example/g00018/impl"
)

// What the document says of scripts, told a second time, as P23 has it: a regular
// expression says what a line of each form is, and its answer is written from what
// the calls of the other chapters tell: IndexRun of all writes so far, SearchText,
// Meaning, Aggregate, Highlight, Terms and Suggest of the documents that were there
// behind the last refresh.

var lineForms = []struct {
	form   *regexp.Regexp
	answer func(*scriptTelling, []string) string
}{
	{regexp.MustCompile(`^ *put +([^ ]+) +([^ ]+) +(-?[0-9]{1,15})((?: +[^ ]+)*) *$`), (*scriptTelling).putLine},
	{regexp.MustCompile(`^ *del +([^ ]+) *$`), (*scriptTelling).delLine},
	{regexp.MustCompile(`^ *refresh *$`), (*scriptTelling).refreshLine},
	{regexp.MustCompile(`^ *find +(-?[0-9]{1,15})(?: +(.*))?$`), (*scriptTelling).findLine},
	{regexp.MustCompile(`^ *tags(?: +(.*))?$`), (*scriptTelling).tagsLine},
	{regexp.MustCompile(`^ *sum(?: +(.*))?$`), (*scriptTelling).sumLine},
	{regexp.MustCompile(`^ *mark +([^ ]+)(?: +(.*))?$`), (*scriptTelling).markLine},
	{regexp.MustCompile(`^ *hint +([^ ]+) *$`), (*scriptTelling).hintLine},
}

var manyBlanks = regexp.MustCompile(` +`)

type scriptTelling struct {
	writes []impl.IndexOp
	docs   []impl.Doc // all that are there
	seen   []impl.Doc // those that were there behind the last refresh
}

// crib is the schema of a script.
func crib() impl.Schema {
	return schemaOf(textField("body", impl.Analyzer{Fold: true, Stem: true, Stops: []string{"the", "of"}}), numberField("n"), wordField("tag"))
}

func scriptOf(text string) string {
	if len(text) > 65536 {
		return ""
	}
	lines := strings.Split(text, "\n")
	operations := 0
	for _, line := range lines {
		operations += btoi(isOperation(line))
	}
	if operations > 200 {
		return ""
	}
	x := &scriptTelling{}
	var b strings.Builder
	for _, line := range lines {
		b.WriteString(x.line(line))
	}
	return b.String()
}

func isOperation(line string) bool {
	for _, f := range lineForms {
		if f.form.MatchString(line) {
			return true
		}
	}
	return false
}

func (x *scriptTelling) line(line string) string {
	if strings.Trim(line, " ") == "" {
		return ""
	}
	for _, f := range lineForms {
		if parts := f.form.FindStringSubmatch(line); parts != nil {
			return f.answer(x, parts)
		}
	}
	return "bad\n"
}

func errorLine(code int) string {
	return fmt.Sprintf("error %d\n", code)
}

// wrote tells what IndexRun tells of a write behind all others.
func (x *scriptTelling) wrote(op impl.IndexOp) impl.IndexObs {
	x.writes = append(x.writes, op)
	list, _ := impl.IndexRun(crib(), x.writes)
	return list[len(list)-1]
}

func (x *scriptTelling) withoutDoc(id string) []impl.Doc {
	var docs []impl.Doc
	for _, d := range x.docs {
		if d.Id != id {
			docs = append(docs, d)
		}
	}
	return docs
}

func (x *scriptTelling) putLine(parts []string) string {
	n, _ := strconv.Atoi(parts[3])
	d := docWith(parts[1], numbersIn("n", n), textsIn("tag", parts[2]))
	if body := strings.Trim(manyBlanks.ReplaceAllString(parts[4], " "), " "); body != "" {
		d.Values = append([]impl.Value{textsIn("body", body)}, d.Values...)
	}
	o := x.wrote(impl.IndexOp{Kind: impl.WPut, Doc: d})
	if o.Code != impl.OK {
		return errorLine(o.Code)
	}
	x.docs = append(x.withoutDoc(d.Id), d)
	return fmt.Sprintf("ok %d\n", o.Version)
}

func (x *scriptTelling) delLine(parts []string) string {
	o := x.wrote(impl.IndexOp{Kind: impl.WDelete, Id: parts[1]})
	if o.Code != impl.OK {
		return errorLine(o.Code)
	}
	x.docs = x.withoutDoc(parts[1])
	return fmt.Sprintf("ok %d\n", o.Version)
}

func (x *scriptTelling) refreshLine([]string) string {
	o := x.wrote(impl.IndexOp{Kind: impl.WRefresh})
	x.seen = x.docs
	return fmt.Sprintf("ok %d %d\n", o.Live, o.Segments)
}

func (x *scriptTelling) findLine(parts []string) string {
	size, _ := strconv.Atoi(parts[1])
	hits, code := impl.SearchText(crib(), x.seen, parts[2], size)
	if code != impl.OK {
		return errorLine(code)
	}
	q, _ := impl.ParseQuery(parts[2])
	all, _ := impl.Meaning(crib(), x.seen, q)
	text := fmt.Sprintf("hits %d\n", len(all))
	for _, h := range hits {
		text += fmt.Sprintf("%s %d\n", h.Id, h.Score)
	}
	return text
}

func (x *scriptTelling) buckets(query string, a impl.Agg) ([]impl.Bucket, int) {
	q, code := impl.ParseQuery(query)
	if code != impl.OK {
		return nil, code
	}
	return impl.Aggregate(crib(), x.seen, q, []impl.Agg{a})
}

func (x *scriptTelling) tagsLine(parts []string) string {
	list, code := x.buckets(parts[1], impl.Agg{Parent: -1, Kind: impl.ATerms, Field: "tag", Size: 10})
	if code != impl.OK {
		return errorLine(code)
	}
	text := ""
	for _, b := range list {
		text += fmt.Sprintf("%d %s\n", b.Count, b.Key)
	}
	return text + "end\n"
}

func (x *scriptTelling) sumLine(parts []string) string {
	list, code := x.buckets(parts[1], impl.Agg{Parent: -1, Kind: impl.ASum, Field: "n"})
	if code != impl.OK {
		return errorLine(code)
	}
	return fmt.Sprintf("sum %d %d\n", list[0].Count, list[0].Value)
}

func (x *scriptTelling) markLine(parts []string) string {
	for _, d := range x.seen {
		if d.Id == parts[1] {
			return markAnswer(d, parts[2])
		}
	}
	return errorLine(impl.ErrMissing)
}

func markAnswer(d impl.Doc, query string) string {
	q, code := impl.ParseQuery(query)
	if code != impl.OK {
		return errorLine(code)
	}
	texts, code := impl.Highlight(crib(), d, "body", q)
	switch {
	case code != impl.OK:
		return errorLine(code)
	case len(texts) == 0:
		return "\n"
	}
	return texts[0] + "\n"
}

func (x *scriptTelling) hintLine(parts []string) string {
	terms := map[string]bool{}
	var list []string
	for _, d := range x.seen {
		tokens, _ := impl.Terms(crib(), d, "body")
		for _, term := range tokens {
			if !terms[term.Text] {
				list = append(list, term.Text)
			}
			terms[term.Text] = true
		}
	}
	words, code := impl.Suggest(list, parts[1], 5)
	if code != impl.OK {
		return errorLine(code)
	}
	text := "hint"
	for _, word := range words {
		text += " " + word
	}
	return text + "\n"
}

func wantScript(t *testing.T, text, want string) {
	t.Helper()
	told := impl.RunScript(text)
	if told == want {
		return
	}
	lines, wanted := strings.SplitAfter(told, "\n"), strings.SplitAfter(want, "\n")
	for i := range wanted {
		if i >= len(lines) || lines[i] != wanted[i] {
			t.Errorf("RunScript(%s): %d bytes, want %d; line %d is %s, want %s", short(text), len(told), len(want), i, short(strings.Join(lines[min(i, len(lines)):min(i+1, len(lines))], "")), short(wanted[i]))
			return
		}
	}
	t.Errorf("RunScript(%s): %d bytes, want %d", short(text), len(told), len(want))
}

func wantSameScript(t *testing.T, text string) {
	t.Helper()
	wantScript(t, text, scriptOf(text))
}

// silent stands for the answer of a line that has none.
const silent = "(nothing)"

// wantDialog takes lines, and behind each one its answer, without the last byte
// 10. The second telling must say the same.
func wantDialog(t *testing.T, list ...string) {
	t.Helper()
	text, want := "", ""
	for i := 0; i < len(list); i += 2 {
		text += list[i] + "\n"
		if list[i+1] != silent {
			want += list[i+1] + "\n"
		}
	}
	wantScript(t, text, want)
	wantScript(t, strings.TrimSuffix(text, "\n"), want)
	if second := scriptOf(text); second != want {
		t.Errorf("the second telling of %s: %s, want %s", short(text), short(second), short(want))
	}
}

// cribLines put five documents, and leave them in two segments.
func cribLines() string {
	return "put a red 5 The running cats\nput b blue -3 a house of cats and dogs\nput c red 0\nrefresh\nput d green 12 cats cats dog\nput e blue 7 the of\nrefresh\n"
}

// wantBehind wants the answer of a line behind those of cribLines.
func wantBehind(t *testing.T, line, want string) {
	t.Helper()
	told, ok := strings.CutPrefix(impl.RunScript(cribLines()+line), "ok 1\nok 2\nok 3\nok 3 1\nok 4\nok 5\nok 5 2\n")
	if !ok || told != want+"\n" {
		t.Errorf("%s: %s, want %s", short(line), short(told), short(want))
	}
	if second, _ := strings.CutPrefix(scriptOf(cribLines()+line), scriptOf(cribLines())); second != want+"\n" {
		t.Errorf("the second telling of %s: %s, want %s", short(line), short(second), short(want))
	}
}

// scriptQueries are of each kind, with codes and without.
func scriptQueries() []string {
	return []string{
		"cat", "cats", "dogs", "CATS", "the", "of house", "*", "run*", "ru*", `~"c?t"`, `~"*o*"`, "kat~", "kats~2", `"running cats"`, `"cats dogs"~2`, `"dogs cats"`, "n:5", "n:-3", "n:[0 7]", "n:[* 4]", "n:[-9 *]",
		"tag:red", "tag:re*", "tag:Red", `tag:~"*e*"`, "body:cat", "body:house^9", "+cat -dog", "-cat", "cat dog", "(cat dog)@2", "+tag:red cat^3", "+(cat dog house) -n:12", "(cat -(dog -house))", "zzz", `""`, `"the of"`, "cat*", "*^99", "+* -tag:blue",
		"", "(", ")", "()", "cat^", "cat^100", "nope:x", "cat nope:[1 2]", "nope:(", `"cat`, "n:[5 1]", "[1 2]", "cat\tdog", "\xff", "cat\xc3", "cat\\", "cat\\ ", "((((((((cat))))))))", "(((((((((cat)))))))))", strings.Repeat("x ", 63), strings.Repeat("x ", 64), strings.Repeat("x ", 65), strings.Repeat("x", 64), strings.Repeat("x", 65), strings.Repeat(" ", 1999) + "x", strings.Repeat("x ", 1001), "\xff" + strings.Repeat("x", 2000),
	}
}

func randomScriptWord(source *rand.Rand) string {
	words := []string{"cat", "cats", "Cats", "dog", "dogs", "running", "ran", "run", "the", "of", "house", "houses", "a", "kat", "hut", "\u00c9t\u00e9", "\u4e2d\u6587", "it's", "x-y", "7", "[", "cat,dog", "\t", "\xff"}
	if source.Intn(40) > 0 {
		words = words[:len(words)-2]
	}
	return words[source.Intn(len(words))]
}

func randomScriptId(source *rand.Rand) string {
	if source.Intn(30) == 0 {
		return []string{"\x7f", "\u00e9", strings.Repeat("i", 31), "none"}[source.Intn(4)]
	}
	return string(rune('a' + source.Intn(7)))
}

func randomScriptNumber(source *rand.Rand) string {
	if source.Intn(12) == 0 {
		odd := []string{"-", "-0", "+1", "1-", "x", "1000000000000", "1000000000001", "-1000000000000", "999999999999999", "1234567890123456", "000000000000007", "1.5", "0x1"}
		return odd[source.Intn(len(odd))]
	}
	return strconv.Itoa(source.Intn(12) - 3)
}

func randomScriptLine(source *rand.Rand) string {
	queries := scriptQueries()
	query := queries[source.Intn(len(queries))]
	if source.Intn(2) == 0 {
		query = queries[source.Intn(40)]
	}
	switch kind := source.Intn(20); {
	case kind < 7:
		words := []string{"put", randomScriptId(source), []string{"red", "blue", "green", "r\u00e9d", "x"}[source.Intn(5)], randomScriptNumber(source)}
		for range source.Intn(6) {
			words = append(words, randomScriptWord(source))
		}
		return strings.Join(words, " ")
	case kind < 9:
		return "del " + randomScriptId(source)
	case kind < 12:
		return "refresh"
	case kind < 14:
		return "find " + randomScriptNumber(source) + " " + query
	case kind < 15:
		return "tags " + query
	case kind < 16:
		return "sum " + query
	case kind < 18:
		return "mark " + randomScriptId(source) + " " + query
	case kind < 19:
		return "hint " + randomScriptWord(source)
	}
	odd := []string{"", " ", "put", "put a", "put a b", "put a b c", "del", "del a b", "refresh x", "find", "find x", "mark", "hint", "hint a b", "what", "Put a b 1", "refresh\t", "find\t1 *", "tags\r", "REFRESH"}
	return odd[source.Intn(len(odd))]
}

// randomScript has no more lines than may be operations.
func randomScript(source *rand.Rand, most int) string {
	var b strings.Builder
	for range source.Intn(most + 1) {
		line := randomScriptLine(source)
		if source.Intn(8) == 0 {
			line = strings.ReplaceAll(line, " ", strings.Repeat(" ", 1+source.Intn(3)))
		}
		b.WriteString(strings.Repeat(" ", source.Intn(8)/7))
		b.WriteString(line)
		b.WriteString(strings.Repeat(" ", source.Intn(8)/7))
		b.WriteByte('\n')
	}
	text := b.String()
	if source.Intn(2) == 0 {
		text = strings.TrimSuffix(text, "\n")
	}
	return text
}
