package tests

import (
	"fmt"
	"slices"
	"strings"
	"testing"

	"loop.example/g00018/impl"
)

const (
	should  = impl.RoleShould
	must    = impl.RoleMust
	mustNot = impl.RoleNot
)

// querySigns are the bytes that stand for themselves in a word only behind a
// backslash.
const querySigns = " ()\":^~[]+-*?@\\"

// Texts of one node each, without a role.
func oneNode() map[string]branch {
	far := greatestNumber
	node := func(kind int, field, text string) impl.Node {
		return impl.Node{Kind: kind, Field: field, Text: text}
	}
	slop := func(n impl.Node, slop int) impl.Node {
		n.Slop = slop
		return n
	}
	span := func(lo, hi int) branch {
		return leaf(impl.Node{Kind: impl.QRange, Field: "n", Lo: lo, Hi: hi})
	}
	return map[string]branch{
		`cat`:                                  termLeaf("cat"),
		`title:cat`:                            leaf(node(impl.QTerm, "title", "cat")),
		`cat^7`:                                termLeaf("cat").boosted(7),
		`t_1:cat^99`:                           leaf(node(impl.QTerm, "t_1", "cat")).boosted(99),
		`007`:                                  termLeaf("007"),
		"\t":                                   termLeaf("\t"),
		"a\u00a0b\nc\x00":                      termLeaf("a\u00a0b\nc\x00"),
		"\u4e2d\U0001f600":                     termLeaf("\u4e2d\U0001f600"),
		`Title`:                                termLeaf("Title"),
		`a\ b\:`:                               termLeaf("a b:"),
		`\a\b\0`:                               termLeaf("ab0"),
		`a,b!c;{d}|e&f=#/`:                     termLeaf("a,b!c;{d}|e&f=#/"),
		`"big fox"`:                            leaf(node(impl.QPhrase, "", "big fox")),
		`""`:                                   leaf(node(impl.QPhrase, "", "")),
		`f:""`:                                 leaf(node(impl.QPhrase, "f", "")),
		`""~0`:                                 leaf(node(impl.QPhrase, "", "")),
		`" "~1`:                                leaf(slop(node(impl.QPhrase, "", " "), 1)),
		`f:"a (b) c:d"~20`:                     leaf(slop(node(impl.QPhrase, "f", "a (b) c:d"), 20)),
		`"\"\\\a"`:                             leaf(node(impl.QPhrase, "", `"\a`)),
		`"a"~2^3`:                              leaf(slop(node(impl.QPhrase, "", "a"), 2)).boosted(3),
		`ru*`:                                  leaf(node(impl.QPrefix, "", "ru")),
		`f:r\*u*^2`:                            leaf(node(impl.QPrefix, "f", "r*u")).boosted(2),
		`~"a*b?c"`:                             leaf(node(impl.QWild, "", "a*b?c")),
		`f:~"*"^5`:                             leaf(node(impl.QWild, "f", "*")).boosted(5),
		`~"\*\\*\\"`:                           leaf(node(impl.QWild, "", `*\*\`)),
		`kat~`:                                 leaf(slop(node(impl.QFuzzy, "", "kat"), 1)),
		`kat~1`:                                leaf(slop(node(impl.QFuzzy, "", "kat"), 1)),
		`f:kat~2^4`:                            leaf(slop(node(impl.QFuzzy, "f", "kat"), 2)).boosted(4),
		`kat~^4`:                               leaf(slop(node(impl.QFuzzy, "", "kat"), 1)).boosted(4),
		`ka\~t~02`:                             leaf(slop(node(impl.QFuzzy, "", "ka~t"), 2)),
		`n:[1 2]`:                              span(1, 2),
		`n:[-7 -7]`:                            span(-7, -7),
		`n:[-0 00]`:                            span(0, 0),
		`n:[1    2]^6`:                         span(1, 2).boosted(6),
		`n:[* 2]`:                              span(-far, 2),
		`n:[-2 *]`:                             span(-2, far),
		`n:[* *]`:                              span(-far, far),
		`n:[* -1000000000000]`:                 span(-far, -far),
		`n:[1000000000000 *]`:                  span(far, far),
		`n:[001000000000000 1000000000000]`:    span(far, far),
		`n:[-001000000000000 000000000000005]`: span(-far, 5),
		`*`:                                    allLeaf(),
		`*^2`:                                  allLeaf().boosted(2),
		`(a)`:                                  group(termLeaf("a")),
		`(  a  )`:                              group(termLeaf("a")),
		`(a b   c)`:                            group(termLeaf("a"), termLeaf("b"), termLeaf("c")),
		`(+a -b c)`:                            group(termLeaf("a").with(must), termLeaf("b").with(mustNot), termLeaf("c")),
		`(a b)@2`:                              group(termLeaf("a"), termLeaf("b")).atLeast(2),
		`(a b)@0^1`:                            group(termLeaf("a"), termLeaf("b")),
		`(a b)@64^99`:                          group(termLeaf("a"), termLeaf("b")).atLeast(64).boosted(99),
		`(a)^8`:                                group(termLeaf("a")).boosted(8),
		`((a) *)@1`:                            group(group(termLeaf("a")), allLeaf()).atLeast(1),
		`(+(-a)@1^2 -(*)^3 b)`:                 group(group(termLeaf("a").with(mustNot)).atLeast(1).boosted(2).with(must), group(allLeaf()).boosted(3).with(mustNot), termLeaf("b")),
	}
}

// Each alone is the root; with a role, or beside another, it is below one.
func TestParseQueryOfEachKind(t *testing.T) {
	for text, want := range oneNode() {
		wantReading(t, text, want)
		wantReading(t, "  "+text+"   ", want)
		wantReading(t, "+"+text, group(want.with(must)))
		wantReading(t, " -"+text+" ", group(want.with(mustNot)))
		wantReading(t, "("+text+")", group(want))
		wantReading(t, "( +"+text+" )@3^2", group(want.with(must)).atLeast(3).boosted(2))
		wantReading(t, text+" x", group(want, termLeaf("x")))
		wantReading(t, " x   +"+text, group(termLeaf("x"), want.with(must)))
		wantReading(t, "-"+text+" ("+text+" "+text+")", group(want.with(mustNot), group(want, want)))
	}
}

func TestParseQueryOfTwoKinds(t *testing.T) {
	all := oneNode()
	for first := range all {
		for second := range all {
			wantReading(t, first+" -"+second, group(all[first], all[second].with(mustNot)))
		}
	}
}

// What stands right behind a node, without a blank, is no other one.
func TestParseQueryNeedsBlanks(t *testing.T) {
	for first := range oneNode() {
		for second := range oneNode() {
			wantSameParse(t, first+second)
		}
		for _, second := range []string{"(a)", `"a"`, "+a", "-a", ":a", "[1 2]", `\`, ")", "]", `"`, "?", "@", "^", "@1@1", "^1^1"} {
			wantSameParse(t, first+second)
		}
	}
	for _, text := range []string{"(a)(b)", "(a)b", "a(b)", `"a""b"`, `"a"b`, `a"b"`, "*a", "**", "a*b", "a**", "a+b", "a-b", "a?", "?", "a]", "]", "a^1b", "n:[1 2]a", `~"a"b`, `~"a"~2`, "a~1~1", `"a"~1~1`, "a~1*", "a*~1", "(a)@1b", "(a)^2@1", "a^1^1", "a\t b:c:d"} {
		wantNoQuery(t, text, impl.ErrSyntax)
	}
}

func TestParseQueryWithoutNode(t *testing.T) {
	for _, text := range []string{"", " ", "   ", "()", "( )", "(a ())", "(()", "+", "-", "+ a", "- a", "a +", "++a", "+-a", "-+a", "--a", "(+)", "(-)", "f:", "f: a", "f :a", ":a", ":", "+:a", "f::a", "f:+a", "f:-a", "f:(a)", "f:*", "f:*^2", "f:g:a", "+f:(a)@1", "\\", "a \\", "a\\", "^2", "@1", "~", "~1", "~a", `~ "a"`, "f:~", `f:~1`, "f:^1"} {
		wantNoQuery(t, text, impl.ErrSyntax)
	}
}

// Brackets, quotes and ranges that do not match, and whatever else is cut short.
func TestParseQueryCutShort(t *testing.T) {
	for text := range oneNode() {
		for i := range len(text) + 1 {
			wantSameParse(t, text[:i])
			wantSameParse(t, text[i:])
			wantSameParse(t, "("+text[:i]+")")
			wantSameParse(t, "+x "+text[:i]+" y")
		}
	}
	for _, text := range []string{"(", ")", "(a", "a)", "((a)", "(a))", ")a(", "(a]", "[1 2)", `"`, `"a`, `a"`, `"a\"`, `"\"`, `"""`, `~"`, `~"a`, `~"a\"`, "n:[", "n:[1", "n:[1 ", "n:[1 2", "n:[1]", "n:[ 1 2]", "n:[1 2 ]", "n:[1 2 3]", "n:[]", "n:[ ]", "n:[- 2]", "n:[1 -]", "n:[-* 2]", "n:[1 +2]", "n:[--1 2]", "n:[1\t2]", "n:[1,2]", "n:[a b]", "n:[** 1]", "n:1 2]", "[1 2]", "+[1 2]", "n:[2 1]", "n:[* -1000000000001]"} {
		wantNoQuery(t, text, impl.ErrSyntax)
	}
}

// Each byte left out, doubled, and another one put in its place or ahead of it.
func TestParseQueryChangedInOneByte(t *testing.T) {
	for text := range oneNode() {
		text = "+" + text + " x"
		for i := range len(text) {
			wantSameParse(t, text[:i]+text[i+1:])
			wantSameParse(t, text[:i+1]+text[i:])
			for _, sign := range querySigns + "a0_\u4e2d\x80" {
				wantSameParse(t, text[:i]+string(sign)+text[i:])
				wantSameParse(t, text[:i]+string(sign)+text[i+1:])
			}
		}
	}
}

// every calls tell with each text of at most most pieces.
func every(pieces []string, most int, tell func(text string)) {
	var grow func(text string, left int)
	grow = func(text string, left int) {
		tell(text)
		if left > 0 {
			for _, piece := range pieces {
				grow(text+piece, left-1)
			}
		}
	}
	grow("", most)
}

func TestParseQueryOfAllSmallTexts(t *testing.T) {
	every(strings.Split(querySigns+"a1", ""), 4, func(text string) { wantSameParse(t, text) })
	every(strings.Split("a() +@1", ""), 6, func(text string) { wantSameParse(t, text) })
	every(strings.Split(`"\~ 1`, ""), 7, func(text string) { wantSameParse(t, text) })
	every(strings.Split("-*1 ]", ""), 6, func(text string) { wantSameParse(t, "n:["+text+"]") })
	every(strings.Split(`a\ :^`, ""), 7, func(text string) { wantSameParse(t, text) })
	every([]string{"a", "f:", "(", ")", " ", "^2", "@1", `"a"`, "+", "*", "~"}, 5, func(text string) { wantSameParse(t, text) })
}

// Behind a backslash every byte stands for itself, also one that begins a longer
// character.
func TestParseQueryBackslash(t *testing.T) {
	for r := rune(0); r < 128; r++ {
		wantReading(t, `a\`+string(r)+"b", termLeaf("a"+string(r)+"b"))
		wantReading(t, `\`+string(r)+"*", leaf(impl.Node{Kind: impl.QPrefix, Text: string(r)}))
		wantReading(t, `"`+`\`+string(r)+`"`, leaf(impl.Node{Kind: impl.QPhrase, Text: string(r)}))
		plain := "a" + string(r) + "b"
		if strings.ContainsRune(querySigns, r) {
			q, _ := impl.ParseQuery(plain)
			if len(q.Nodes) == 1 && q.Nodes[0].Text == plain {
				t.Errorf("%q is taken as a word", plain)
			}
		} else {
			wantReading(t, plain, termLeaf(plain))
		}
		wantSameParse(t, plain)
		wantSameParse(t, `\`+string(r)+":a")
	}
	for _, r := range []rune{128, 233, 0x7ff, 0x800, 0x4e2d, 0xfffd, 0x10000, 0x10ffff} {
		wantReading(t, `\`+string(r)+`x\`+string(r), termLeaf(string(r)+"x"+string(r)))
		wantReading(t, `~"\`+string(r)+`"`, leaf(impl.Node{Kind: impl.QWild, Text: string(r)}))
	}
	wantReading(t, `\\\\`, termLeaf(`\\`))
	wantReading(t, `\ `, termLeaf(" "))
	wantReading(t, `a\  b`, group(termLeaf("a "), termLeaf("b")))
	for _, text := range []string{`\`, `a\`, `a\\\`, `+\`, `f:\`, `"a\`, `"a\"`, `~"\`, `(a\)`, `(a\`, `a \`, `a* \`, `n:[1\ 2]`, `\(a)`, `a^\1`, `f\:a:b`, `f\a:b`, `\f:b`, `\"a"`} {
		wantNoQuery(t, text, impl.ErrSyntax)
	}
}

func TestParseQueryFields(t *testing.T) {
	for _, name := range []string{"a", "z", "a0", "a_", "title", "a9_b", strings.Repeat("a", 30)} {
		wantReading(t, name+":x", leaf(impl.Node{Kind: impl.QTerm, Field: name, Text: "x"}))
		wantReading(t, name+":[1 2]", leaf(impl.Node{Kind: impl.QRange, Field: name, Lo: 1, Hi: 2}))
	}
	for _, name := range []string{"", "A", "aB", "0", "_", "_a", "9a", "a.b", "a\u00e9", "\u00e9", "a b:c", strings.Repeat("a", 31), `"a"`, "a*", "a~", "a^1", "(a)", "*"} {
		wantSameParse(t, name+":x")
	}
	for _, text := range []string{"A:x", "0:x", "_a:x", "a.b:x", "\u00e9:x", strings.Repeat("a", 31) + ":x", `"a":x`, "a*:x", "(a):x", "*:x", "a\t:x"} {
		wantNoQuery(t, text, impl.ErrSyntax)
	}
}

// Numbers with noughts ahead, up to more digits than there may be.
func TestParseQueryNumbers(t *testing.T) {
	for n := range 101 {
		for digits := 1; digits <= 17; digits++ {
			number := fmt.Sprintf("%0*d", digits, n)
			for _, text := range []string{"a^" + number, `"a"~` + number, "a~" + number, "(a)@" + number, "n:[" + number + " " + number + "]", "n:[-" + number + " *]", "n:[* -" + number + "]^" + number} {
				wantSameParse(t, text)
				if len(number) > 15 {
					wantNoQuery(t, text, impl.ErrSyntax)
				}
			}
		}
	}
	for _, number := range []string{"999999999999", "1000000000000", "1000000000001", "999999999999999", "1000000000000000", "9223372036854775807", "9223372036854775808", "18446744073709551616", "18446744073709551617", strings.Repeat("9", 100)} {
		for _, form := range []string{"a^%s", `"a"~%s`, "a~%s", "(a)@%s", "n:[%s *]", "n:[* %s]", "n:[-%s *]", "n:[* -%s]"} {
			wantSameParse(t, fmt.Sprintf(form, number))
		}
	}
	for _, text := range []string{"a^", "a^-1", "a^+1", "a^ 1", "a^1.5", "a^a", "a^\u0661", `"a"~`, `"a"~-1`, `"a"~ 1`, `"a"~a`, "a~-1", "a~a", "a~1a", "(a)@", "(a)@-1", "(a)@ 1", "(a)@a"} {
		wantNoQuery(t, text, impl.ErrSyntax)
	}
	wantReading(t, "a~ 1", group(leaf(impl.Node{Kind: impl.QFuzzy, Text: "a", Slop: 1}), termLeaf("1")))
}

func TestParseQueryBounds(t *testing.T) {
	for text, right := range map[string]bool{
		"a^0": false, "a^1": true, "a^99": true, "a^100": false, "*^0": false, "(a)^100": false, "n:[1 2]^100": false,
		`"a"~0`: true, `"a"~20`: true, `"a"~21`: false, "a~0": false, "a~1": true, "a~2": true, "a~3": false,
		"(a)@0": true, "(a)@64": true, "(a)@65": false,
		"n:[-1000000000000 1000000000000]": true, "n:[-1000000000001 1]": false, "n:[1 1000000000001]": false, "n:[5 5]": true, "n:[5 4]": false, "n:[-4 -5]": false,
		`~"????????"`: true, `~"?????????"`: false, `~"\\?????????"`: true, `~""`: false, `""`: true, `~"*a??????b"`: true, `~"*a????????"`: false,
	} {
		wantSameParse(t, text)
		if _, code := impl.ParseQuery(text); (code == impl.OK) != right {
			t.Errorf("ParseQuery of %s: code %d", text, code)
		}
	}
	for _, sign := range []string{"a", "\u00e9", "\u4e2d", "\U0001f600", `\\`, `\"`, `\ `} {
		for _, bytes := range []int{0, 1, 2, 3, 4, 28, 29, 30, 31, 32, 58, 59, 60, 61, 62, 63, 64, 65, 66, 100, 120, 121, 122, 124, 128} {
			text := strings.Repeat(sign, bytes/len(sign)) + strings.Repeat("b", bytes%len(sign))
			for _, form := range []string{"%s", "f:%s", `"%s"`, `f:"%s"~3`, "%s*", `~"%s"`, "%s~", "%s~2", "+f:%s~1^2"} {
				wantSameParse(t, fmt.Sprintf(form, text))
			}
		}
	}
}

// A text that is a query of many nodes, one of which is not right, is no query;
// only then it counts how deep and how many they are.
func TestParseQueryCodes(t *testing.T) {
	deep := strings.Repeat("(", 8) + "a" + strings.Repeat(")", 8)
	many := strings.Repeat("a ", 64)
	long := strings.Repeat(" ", 2001)
	noQuery := []string{")", "a)", "a^0", "f:", `"`, "n:[2 1]", `~""`, "(", "a~3"}
	noForm := []string{"\xff", "\x80", "\xc3", "\xed\xa0\x80", "\xc0\xaf", "\xf4\x90\x80\x80"}
	wantNoQuery(t, deep, impl.ErrDeep)
	wantNoQuery(t, many, impl.ErrMany)
	wantNoQuery(t, long, impl.ErrLong)
	for _, first := range []string{deep + " " + many, many + " " + deep, "(" + many + ")" + " " + deep, strings.Repeat("(", 8) + many + strings.Repeat(")", 8)} {
		wantNoQuery(t, first, impl.ErrDeep)
	}
	for _, wrong := range noQuery {
		for _, more := range []string{deep, many, deep + " " + many} {
			wantNoQuery(t, wrong+" "+more, impl.ErrSyntax)
			wantNoQuery(t, more+" "+wrong, impl.ErrSyntax)
		}
	}
	for _, wrong := range noForm {
		for _, more := range append(slices.Clone(noQuery), deep, many, deep+" "+many, "a", "") {
			wantNoQuery(t, wrong+" "+more, impl.ErrForm)
			wantNoQuery(t, more+" "+wrong, impl.ErrForm)
			wantNoQuery(t, more+" \""+wrong+"\"", impl.ErrForm)
			wantNoQuery(t, more+"\\"+wrong, impl.ErrForm)
			wantNoQuery(t, wrong+more+long, impl.ErrLong)
			wantNoQuery(t, long+more+wrong, impl.ErrLong)
		}
	}
	for _, more := range append(slices.Clone(noQuery), deep, many, "a", strings.Repeat("(", 70000), strings.Repeat("\xff", 70000)) {
		wantNoQuery(t, more+long, impl.ErrLong)
		wantNoQuery(t, long+more, impl.ErrLong)
	}
}

func TestParseQueryMostBytes(t *testing.T) {
	for _, text := range []string{
		"a" + strings.Repeat(" ", 1999), strings.Repeat(" ", 1999) + "a", "(a" + strings.Repeat(" ", 1997) + ")", "n:[1" + strings.Repeat(" ", 1994) + "2]",
		strings.Repeat("abcdefghijklmnopqrstuvwxyzabcde ", 62) + strings.Repeat("a", 16),
		strings.Repeat(`"\a\a\a\a\a\a\a\a\a\a\a\a\a\a" `, 62) + strings.Repeat(" ", 77) + "a",
	} {
		if len(text) != 2000 {
			t.Fatalf("%d bytes", len(text))
		}
		q, code := impl.ParseQuery(text)
		if code != impl.OK || !impl.QueryOK(q) {
			t.Errorf("%s: code %d", short(text), code)
		}
		wantSameParse(t, text)
		wantNoQuery(t, text+" ", impl.ErrLong)
		wantNoQuery(t, " "+text, impl.ErrLong)
		wantNoQuery(t, text+"\x80", impl.ErrLong)
		wantNoQuery(t, text[:1999]+"\x80", impl.ErrForm)
	}
	for _, text := range []string{strings.Repeat("(", 2000), strings.Repeat(")", 2000), strings.Repeat("\\", 2000), strings.Repeat(" ", 2000), strings.Repeat("a", 2000), strings.Repeat("1", 2000), strings.Repeat("+", 2000), `"` + strings.Repeat("a", 1998) + `"`} {
		wantNoQuery(t, text, impl.ErrSyntax)
	}
	wantNoQuery(t, strings.Repeat("(", 999)+"a"+strings.Repeat(")", 999), impl.ErrDeep)
	wantNoQuery(t, strings.Repeat("a ", 1000), impl.ErrMany)
	wantNoQuery(t, strings.Repeat("* ", 999)+"^", impl.ErrSyntax)
}

func TestParseQueryMostNodes(t *testing.T) {
	list := func(n int, text string) string { return strings.TrimSpace(strings.Repeat(text+" ", n)) }
	for text, right := range map[string]bool{
		list(63, "a"): true, list(64, "a"): false, // with the root that is not told
		"(" + list(63, "a") + ")": true, "(" + list(64, "a") + ")": false,
		"+(" + list(62, "a") + ")": true, "+(" + list(63, "a") + ")": false,
		list(31, "(a)"): true, list(31, "(a)") + " a": true, list(32, "(a)"): false, list(31, "(a)") + " a a": false,
		"((((((" + list(56, "-a") + ")))))) *": true, "((((((" + list(57, "-a") + ")))))) *": false,
	} {
		q, code := impl.ParseQuery(text)
		if right && code != impl.OK || !right && code != impl.ErrMany {
			t.Errorf("%s: code %d, %d nodes", short(text), code, len(q.Nodes))
		}
		wantSameParse(t, text)
	}
}

func TestParseQueryMostNest(t *testing.T) {
	in := func(n int, text string) string { return strings.Repeat("(", n) + text + strings.Repeat(")", n) }
	for text, right := range map[string]bool{
		in(7, "a"): true, in(8, "a"): false, in(7, "a b (c)"): false, in(7, "+a"): true,
		"+" + in(6, "a"): true, "+" + in(7, "a"): false, // below a root that is not told
		"a " + in(6, "a"): true, "a " + in(7, "a"): false, in(6, "a") + " " + in(6, "*"): true, in(6, "a") + " " + in(7, "a"): false,
		"(a " + in(6, "b") + " c)": true, "(a " + in(7, "b") + " c)": false,
	} {
		q, code := impl.ParseQuery(text)
		if right && code != impl.OK || !right && code != impl.ErrDeep {
			t.Errorf("%s: code %d, %d nodes", short(text), code, len(q.Nodes))
		}
		wantSameParse(t, text)
	}
}
