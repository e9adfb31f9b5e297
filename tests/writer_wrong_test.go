package tests

import (
	"math"
	"slices"
	"strings"
	"testing"

	"loop.example/g00018/impl"
)

func TestRunOfWrongSchemas(t *testing.T) {
	long := textField("t", impl.Analyzer{Stops: slices.Repeat([]string{"x"}, 65)})
	many := slices.Repeat([]impl.IndexOp{opens()}, 201)
	for _, s := range []impl.Schema{{}, schemaOf(wordField("")), schemaOf(wordField("b"), wordField("a")), schemaOf(wordField("a"), wordField("a")), schemaOf(impl.FieldDef{Name: "a"}), schemaOf(impl.FieldDef{Name: "a", Kind: 4}), schemaOf(long), manyFields(17), schemaOf(impl.FieldDef{Name: "a", Kind: impl.KWord, Analyzer: impl.Analyzer{Fold: true}})} {
		if rightSchema(s) {
			t.Fatalf("the second telling takes %s", shortSchema(s))
		}
		for _, ops := range [][]impl.IndexOp{nil, {}, {opens()}, {puts(docWith("a"))}, {{Kind: 99}}, many[:200]} {
			wantRun(t, s, ops, nil, impl.ErrBad)
		}
		// Too many operations count ahead of the schema.
		wantRun(t, s, many, nil, impl.ErrMany)
	}
	wantSameRun(t, manyFields(16), []impl.IndexOp{puts(docWith("a")), refreshes(), opens(), searches(1, impl.Ask{Query: queryOf(t, "*"), Size: 9})})
}

// A document that isn't valid changes nothing, whatever version is asked for and
// whether its id is there or not.
func TestRunOfWrongDocs(t *testing.T) {
	for _, d := range wrongDocs() {
		if rightDoc(scene(), d) {
			t.Fatalf("the second telling takes %s", shortDoc(d))
		}
		for _, version := range []int{math.MinInt, -2, -1, 0, 1, 2, math.MaxInt} {
			ops := []impl.IndexOp{{Kind: impl.WPut, Doc: d, Version: version}, puts(docWith("x", textsIn("tag", "red"))), {Kind: impl.WPut, Doc: d, Version: version}, getsVersion("x"), refreshes(), {Kind: impl.WPut, Doc: d, Version: version}, opens(), searches(1, impl.Ask{Query: queryOf(t, "tag:red"), Size: 9})}
			wantSameRun(t, scene(), ops)
			for i, o := range mustRun(t, scene(), ops) {
				if ops[i].Kind == impl.WPut && i != 1 && (o.Code != impl.ErrBad || o.Version != 0 || o.Live != btoi(i > 0)) {
					t.Errorf("%s with version %d: %s", shortDoc(d), version, shortObs(o))
				}
			}
		}
	}
	// A document of one schema is none of another.
	wantRun(t, small(), []impl.IndexOp{puts(docWith("a", textsIn("tag", "red"))), puts(docWith("a", textsIn("w", "red")))}, []impl.IndexObs{{Code: impl.ErrBad}, {Version: 1, Live: 1}}, impl.OK)
}

func TestRunOfWrongIds(t *testing.T) {
	for _, id := range []string{"", " ", "A", "a ", " a", "aa", "\x00", "\xff", "\u00e9", "a\x00", strings.Repeat("a", 31), strings.Repeat("a", 65537), strings.Repeat("a", 1<<22)} {
		for _, text := range []string{"", "+a", "+a !", "+a ! -a"} {
			ops := append(opsOf(t, text), removes(id), getsVersion(id), impl.IndexOp{Kind: impl.WDelete, Id: id, Version: 1}, impl.IndexOp{Kind: impl.WDelete, Id: id, Version: -1})
			wantSameRun(t, small(), ops)
			told := mustRun(t, small(), ops)[len(ops)-4:]
			for i, code := range []int{impl.ErrMissing, impl.ErrMissing, impl.ErrMissing, impl.ErrBad} {
				if told[i].Code != code || told[i].Version != 0 || told[i].Live != told[0].Live {
					t.Errorf("%s behind %q: %s, want code %d", short(id), text, shortObs(told[i]), code)
				}
			}
		}
	}
}

func TestRunOfWrongKinds(t *testing.T) {
	for _, kind := range []int{math.MinInt, -7, -1, 0, 8, 9, 100, 1 << 32, 1<<32 + 1, math.MaxInt} {
		full := impl.IndexOp{Kind: kind, Version: 0, Reader: 1, Id: "a", Doc: docWith("b"), Ask: impl.Ask{Query: queryOf(t, "*"), Size: 9}}
		ops := append(opsOf(t, "+a ! +c o"), full, impl.IndexOp{Kind: kind}, impl.IndexOp{Kind: kind, Version: -9, Reader: -9})
		ops = append(ops, opsOf(t, "=a =b ! o ?1 ?2 +a")...)
		wantSameRun(t, small(), ops)
		for i, o := range mustRun(t, small(), ops)[4:7] {
			if !sameObs(o, impl.IndexObs{Code: impl.ErrBad, Live: 2, Segments: 1}) {
				t.Errorf("kind %d, %d: %s", kind, i, shortObs(o))
			}
		}
	}
}

// What a search has a code for, of a reader that sees some and one that sees none.
func TestRunOfWrongAsks(t *testing.T) {
	all := queryOf(t, "*")
	asks := []impl.Ask{{}, {Query: all, From: -1}, {Query: all, From: 1001}, {Query: all, Size: -1}, {Query: all, Size: 1001}, {Query: all, Size: math.MaxInt, From: math.MaxInt}, {Query: all, Sort: up("n", "n", "n", "n", "n")}, {Query: all, Sort: up("none")}, {Query: all, Sort: up("body")}, {Query: all, Sort: up("tag")}, {Query: all, Collapse: "none"}, {Query: all, Collapse: "n"}, {Query: all, Collapse: "body"}, {Query: all, Behind: true, Last: last("a", 1, 2)}, {Query: all, Sort: up("n"), Behind: true}, {Query: queryOf(t, "none:x")}, {Query: queryOf(t, "cat -(bod:x)")}}
	for _, b := range wrongBranches() {
		asks = append(asks, impl.Ask{Query: b.query(), Size: 9}, impl.Ask{Query: b.query(), Size: -1, Collapse: "none"})
	}
	for _, a := range asks {
		code := searchCode(scene(), nil, a)
		if code == impl.OK {
			t.Fatalf("the second telling takes %s", shortAsk(a))
		}
		ops := []impl.IndexOp{opens(), searches(1, a), puts(sceneDocs()[0]), refreshes(), opens(), searches(1, a), searches(2, a), closes(1), searches(1, a), searches(3, a), searches(2, a)}
		wantSameRun(t, scene(), ops)
		list := mustRun(t, scene(), ops)
		for i, want := range map[int]int{1: code, 5: code, 6: code, 8: impl.ErrClosed, 9: impl.ErrClosed, 10: code} {
			o := list[i]
			if o.Code != want || o.Result.Total != 0 || len(o.Result.Hits) > 0 || o.Live != btoi(i > 1) || o.Segments != btoi(i > 2) {
				t.Errorf("operation %d, %s: %s, want code %d", i, shortAsk(a), shortObs(o), want)
			}
		}
	}
}

// Each two things that are wrong with an ask: the first one counts, as in Search.
func TestRunOfAsksWithTwoFaults(t *testing.T) {
	for i, first := range searchFaults() {
		for _, second := range searchFaults()[i:] {
			s, segs := scene(), cutAt(sceneDocs(), 3)
			a := impl.Ask{Query: queryOf(t, "cat (plain:dog body:cat)"), From: 1, Size: 5, Sort: append(up("n"), down("year")...), Collapse: "tag", Behind: true, Last: last("a", 9999, 1, 2)}
			first.apply(&s, &segs, &a)
			second.apply(&s, &segs, &a)
			var ops []impl.IndexOp
			for _, d := range sceneDocs() {
				ops = append(ops, puts(d))
			}
			ops = append(ops, refreshes(), opens(), searches(1, a))
			wantSameRun(t, scene(), ops)
			if o := lastRun(t, scene(), ops); o.Code != searchCode(scene(), oneSegment(sceneDocs()), a) {
				t.Errorf("%s: %s", shortAsk(a), shortObs(o))
			}
		}
	}
}

// Two faults of one operation, and what counts ahead.
func TestRunOfTwoFaults(t *testing.T) {
	bad, there, gone := docWith("a", textsIn("none", "x")), docWith("a"), docWith("g")
	for i, c := range []struct {
		op   impl.IndexOp
		code int
	}{
		{impl.IndexOp{Kind: impl.WPut, Doc: bad, Version: -1}, impl.ErrBad},
		{impl.IndexOp{Kind: impl.WPut, Doc: bad, Version: 7}, impl.ErrBad},
		{impl.IndexOp{Kind: impl.WPut, Doc: bad, Version: 1}, impl.ErrBad},
		{impl.IndexOp{Kind: impl.WPut, Doc: bad, Version: -2}, impl.ErrBad},
		{impl.IndexOp{Kind: impl.WPut, Doc: there, Version: -2}, impl.ErrBad},
		{impl.IndexOp{Kind: impl.WPut, Doc: gone, Version: -2}, impl.ErrBad},
		{impl.IndexOp{Kind: impl.WPut, Doc: gone, Version: 1}, impl.ErrMissing},
		{impl.IndexOp{Kind: impl.WPut, Doc: gone, Version: 2}, impl.ErrMissing},
		{impl.IndexOp{Kind: impl.WPut, Doc: there, Version: 2}, impl.ErrVersion},
		{impl.IndexOp{Kind: impl.WPut, Doc: there, Version: -1}, impl.ErrExists},
		{impl.IndexOp{Kind: impl.WDelete, Id: "g", Version: -1}, impl.ErrBad},
		{impl.IndexOp{Kind: impl.WDelete, Id: "g", Version: -2}, impl.ErrBad},
		{impl.IndexOp{Kind: impl.WDelete, Id: "a", Version: -1}, impl.ErrBad},
		{impl.IndexOp{Kind: impl.WDelete, Id: "g", Version: 2}, impl.ErrMissing},
		{impl.IndexOp{Kind: impl.WDelete, Id: "a", Version: 2}, impl.ErrVersion},
		{impl.IndexOp{Kind: impl.WDelete, Id: "", Version: -5}, impl.ErrBad},
		{impl.IndexOp{Kind: impl.WDelete, Id: "", Version: 5}, impl.ErrMissing},
		{searches(9, impl.Ask{}), impl.ErrClosed},
		{searches(2, impl.Ask{Size: -1}), impl.ErrClosed},
		{searches(0, impl.Ask{Query: queryOf(t, "none:x")}), impl.ErrClosed},
		{searches(1, impl.Ask{Size: -1}), impl.ErrBad},
		{searches(1, impl.Ask{Query: queryOf(t, "none:x"), Size: -1}), impl.ErrField},
		{searches(1, impl.Ask{Query: queryOf(t, "*"), Size: -1, Collapse: "none"}), impl.ErrRange},
		{searches(1, impl.Ask{Query: queryOf(t, "*"), Sort: up("t"), Collapse: "none"}), impl.ErrField},
		{searches(1, impl.Ask{Query: queryOf(t, "*"), Sort: up("t"), Behind: true}), impl.ErrKind},
	} {
		// a has version 1; g was there, with version 2; reader 2 is closed.
		ops := append(opsOf(t, "+a +g ! -g o o x2"), c.op)
		wantSameRun(t, small(), append(ops, opsOf(t, "=a =g ?1 ! o ?3 +a")...))
		if o := lastRun(t, small(), ops); !sameObs(o, impl.IndexObs{Code: c.code, Live: 1, Segments: 1}) {
			t.Errorf("%d, %s: %s, want code %d", i, shortOp(c.op), shortObs(o), c.code)
		}
	}
}

// What its kind does not look at makes an operation no other.
func TestRunOfFilledOperations(t *testing.T) {
	rubbish := []impl.IndexOp{
		{Version: -9, Reader: -9, Id: "a b", Doc: docWith("", textsIn("none", "\xff")), Ask: impl.Ask{Size: -1}},
		{Version: 99, Reader: 1, Id: "a", Doc: docWith("a"), Ask: impl.Ask{Query: queryOf(t, "*"), Size: 9}},
		{Version: 1, Reader: 99, Id: "b", Doc: docWith("b", numbersIn("n", 7)), Ask: impl.Ask{Query: queryOf(t, "none:x"), Behind: true, Last: last("a", 1, 2, 3)}},
		{Version: -1, Reader: math.MinInt, Id: strings.Repeat("x", 1<<20), Doc: docWith(strings.Repeat("x", 1<<20)), Ask: impl.Ask{Sort: up("n", "n", "n", "n", "n"), Collapse: "n"}},
	}
	plain := opsOf(t, "+a +b o ?1 ! o ?2 =a +c +a@1 -b@2 =b ?2 ! o ?3 x2 ?2 x2 -a ! +d@5 +d@-1 =d -d@9 o ?4")
	want := mustRun(t, small(), plain)
	for _, other := range rubbish {
		ops := slices.Clone(plain)
		for i, op := range plain {
			filled := other
			filled.Kind = op.Kind
			switch op.Kind {
			case impl.WPut:
				filled.Doc, filled.Version = op.Doc, op.Version
			case impl.WDelete:
				filled.Id, filled.Version = op.Id, op.Version
			case impl.WClose:
				filled.Reader = op.Reader
			case impl.WSearch:
				filled.Reader, filled.Ask = op.Reader, op.Ask
			case impl.WGet:
				filled.Id = op.Id
			}
			ops[i] = filled
		}
		wantRun(t, small(), ops, want, impl.OK)
	}
}
