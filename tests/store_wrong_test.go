package tests

import (
	"math"
	"slices"
	"strings"
	"testing"

	"loop.example/g00018/impl"
)

func TestStoreOfWrongSchemas(t *testing.T) {
	long := textField("t", impl.Analyzer{Stops: slices.Repeat([]string{"x"}, 65)})
	many := slices.Repeat([]impl.StoreOp{syncs()}, 201)
	for _, s := range []impl.Schema{{}, schemaOf(wordField("")), schemaOf(wordField("b"), wordField("a")), schemaOf(wordField("a"), wordField("a")), schemaOf(impl.FieldDef{Name: "a"}), schemaOf(impl.FieldDef{Name: "a", Kind: 4}), schemaOf(long), manyFields(17), schemaOf(impl.FieldDef{Name: "a", Kind: impl.KWord, Analyzer: impl.Analyzer{Fold: true}})} {
		if rightSchema(s) {
			t.Fatalf("the second telling takes %s", shortSchema(s))
		}
		for _, ops := range [][]impl.StoreOp{nil, {}, {syncs()}, {keeps(docWith("a"))}, {{Kind: 99}}, {crashes(0), recovers()}, many[:200]} {
			wantStore(t, s, ops, nil, impl.ErrBad)
		}
		// Too many operations count ahead of the schema.
		wantStore(t, s, many, nil, impl.ErrMany)
	}
	wantSameStore(t, manyFields(16), []impl.StoreOp{keeps(docWith("a")), syncs(), crashes(0), recovers(), finds(impl.Ask{Query: queryOf(t, "*"), Size: 9})})
}

// A document that isn't valid is not kept and not written, whether its id is there
// or not; while the machine is down that is what counts.
func TestStoreOfWrongDocs(t *testing.T) {
	for _, d := range wrongDocs() {
		if rightDoc(scene(), d) {
			t.Fatalf("the second telling takes %s", shortDoc(d))
		}
		ops := []impl.StoreOp{keeps(d), keeps(docWith("x", textsIn("tag", "red"))), keeps(d), syncs(), keeps(d), crashes(99), keeps(d), recovers(), keeps(d), finds(impl.Ask{Query: queryOf(t, "tag:red"), Size: 9})}
		wantSameStore(t, scene(), ops)
		list := mustStore(t, scene(), ops)
		for i, want := range []int{impl.ErrBad, 0, impl.ErrBad, 0, impl.ErrBad, 0, impl.ErrDown, 0, impl.ErrBad, 0} {
			if list[i].Code != want {
				t.Errorf("%s, operation %d: %s, want code %d", shortDoc(d), i, shortStoreObs(list[i]), want)
			}
		}
		if o := list[9]; o.Seq != 1 || o.Live != 1 || o.Bytes != list[1].Bytes || toldIds(o.Result.Hits) != "x" {
			t.Errorf("%s: %s", shortDoc(d), shortStoreObs(o))
		}
	}
	// A document of one schema is none of another.
	wantStore(t, small(), []impl.StoreOp{keeps(docWith("a", textsIn("tag", "red"))), keeps(docWith("a", textsIn("w", "red")))}, []impl.StoreObs{{Code: impl.ErrBad}, {Seq: 1, Bytes: 18, Live: 1}}, impl.OK)
}

func TestStoreOfWrongIds(t *testing.T) {
	for _, id := range []string{"", " ", "A", "a ", " a", "aa", "\x00", "\xff", "\u00e9", "a\x00", strings.Repeat("a", 31), strings.Repeat("a", 65537), strings.Repeat("a", 1<<22)} {
		for _, text := range []string{"", "+a", "+a s", "+a -a", "+a s !0 r"} {
			ops := append(storeOps(t, text), syncs(), drops(id), syncs())
			wantSameStore(t, small(), ops)
			told := mustStore(t, small(), ops)[len(ops)-3:]
			want := told[0]
			want.Code = impl.ErrMissing
			if !sameStoreObs(told[1], want) || !sameStoreObs(told[2], told[0]) {
				t.Errorf("%s behind %q: %s, then %s", short(id), text, shortStoreObs(told[1]), shortStoreObs(told[2]))
			}
		}
	}
}

func TestStoreOfWrongKinds(t *testing.T) {
	for _, kind := range []int{math.MinInt, -6, -5, -1, 0, 7, 8, 100, 1<<8 + 1, 1 << 32, 1<<32 + 1, 1<<32 + 6, math.MaxInt} {
		full := impl.StoreOp{Kind: kind, N: 99, At: 1, Flip: true, Id: "a", Doc: docWith("b"), Ask: impl.Ask{Query: queryOf(t, "*"), Size: 9}}
		ops := append(storeOps(t, "+a s +c"), full, impl.StoreOp{Kind: kind}, impl.StoreOp{Kind: kind, N: -9, At: -9})
		ops = append(ops, storeOps(t, "? !9")...)
		ops = append(ops, full, impl.StoreOp{Kind: kind}, recovers(), full, finds(allSorted()))
		wantSameStore(t, small(), ops)
		list := mustStore(t, small(), ops)
		for _, i := range []int{3, 4, 5} {
			if !sameStoreObs(list[i], impl.StoreObs{Code: impl.ErrBad, Seq: 2, Bytes: 30, Synced: 15, Live: 2}) {
				t.Errorf("kind %d, operation %d: %s", kind, i, shortStoreObs(list[i]))
			}
		}
		for _, i := range []int{8, 9} {
			if !sameStoreObs(list[i], impl.StoreObs{Code: impl.ErrDown}) {
				t.Errorf("kind %d while it is down: %s", kind, shortStoreObs(list[i]))
			}
		}
		if storeText(list[11]) != "c1 1 15/15 1" || storeText(list[12]) != "1 15/15 1 1 a:0" {
			t.Errorf("kind %d in the end: %s", kind, storeText(list[12]))
		}
	}
}

// What a search has a code for, of some documents and of none; what else is told is
// told all the same.
func TestStoreOfWrongAsks(t *testing.T) {
	all := queryOf(t, "*")
	asks := []impl.Ask{{}, {Query: all, From: -1}, {Query: all, From: 1001}, {Query: all, Size: -1}, {Query: all, Size: 1001}, {Query: all, Size: math.MaxInt, From: math.MaxInt}, {Query: all, Sort: up("n", "n", "n", "n", "n")}, {Query: all, Sort: up("none")}, {Query: all, Sort: up("body")}, {Query: all, Sort: up("tag")}, {Query: all, Collapse: "none"}, {Query: all, Collapse: "n"}, {Query: all, Collapse: "body"}, {Query: all, Behind: true, Last: last("a", 1, 2)}, {Query: all, Sort: up("n"), Behind: true}, {Query: queryOf(t, "none:x")}, {Query: queryOf(t, "cat -(bod:x)")}}
	for _, b := range wrongBranches() {
		asks = append(asks, impl.Ask{Query: b.query(), Size: 9}, impl.Ask{Query: b.query(), Size: -1, Collapse: "none"})
	}
	for _, a := range asks {
		code := searchCode(scene(), nil, a)
		if code == impl.OK {
			t.Fatalf("the second telling takes %s", shortAsk(a))
		}
		ops := []impl.StoreOp{finds(a), keeps(sceneDocs()[0]), finds(a), syncs(), finds(a), crashes(0), finds(a), recovers(), finds(a), drops("d1"), finds(a)}
		wantSameStore(t, scene(), ops)
		list := mustStore(t, scene(), ops)
		size := list[1].Bytes
		for i, want := range map[int]impl.StoreObs{0: {Code: code}, 2: {Code: code, Seq: 1, Bytes: size, Live: 1}, 4: {Code: code, Seq: 1, Bytes: size, Synced: size, Live: 1}, 6: {Code: impl.ErrDown}, 8: {Code: code, Seq: 1, Bytes: size, Synced: size, Live: 1}, 10: {Code: code, Seq: 2, Bytes: size + 9, Synced: size}} {
			if !sameStoreObs(list[i], want) {
				t.Errorf("operation %d, %s: %s, want %s", i, shortAsk(a), shortStoreObs(list[i]), shortStoreObs(want))
			}
		}
	}
}

// Each two things that are wrong with an ask: the first one counts, as in Search.
func TestStoreOfAsksWithTwoFaults(t *testing.T) {
	for i, first := range searchFaults() {
		for _, second := range searchFaults()[i:] {
			s, segs := scene(), cutAt(sceneDocs(), 3)
			a := impl.Ask{Query: queryOf(t, "cat (plain:dog body:cat)"), From: 1, Size: 5, Sort: append(up("n"), down("year")...), Collapse: "tag", Behind: true, Last: last("a", 9999, 1, 2)}
			first.apply(&s, &segs, &a)
			second.apply(&s, &segs, &a)
			var ops []impl.StoreOp
			for _, d := range sceneDocs() {
				ops = append(ops, keeps(d))
			}
			ops = append(ops, finds(a))
			wantSameStore(t, scene(), ops)
			if o := lastStore(t, scene(), ops); o.Code != searchCode(scene(), oneSegment(sceneDocs()), a) || o.Live != len(sceneDocs()) {
				t.Errorf("%s: %s", shortAsk(a), shortStoreObs(o))
			}
		}
	}
}

// Two faults of one operation: while the machine is down that counts ahead of all,
// what is wrong with a write ahead of a full log.
func TestStoreOfTwoFaults(t *testing.T) {
	bad := docWith("a", textsIn("none", "x"))
	down := storeOps(t, "+a s !0")
	for _, op := range []impl.StoreOp{keeps(bad), keeps(impl.Doc{}), drops("none"), drops(""), finds(impl.Ask{}), finds(impl.Ask{Query: queryOf(t, "none:x"), Size: -1}), crashes(-9), {}, {Kind: 7}, {Kind: -1}} {
		run := append(down[:3:3], op, recovers())
		wantSameStore(t, small(), run)
		list := mustStore(t, small(), run)
		if !sameStoreObs(list[3], impl.StoreObs{Code: impl.ErrDown}) || storeText(list[4]) != "1 15/15 1" {
			t.Errorf("%s while it is down: %s, then %s", shortStoreOp(op), shortStoreObs(list[3]), shortStoreObs(list[4]))
		}
	}
	full := fullOps(t, 0)
	for _, c := range []struct {
		op   impl.StoreOp
		code int
	}{{keeps(bad), impl.ErrBad}, {keeps(impl.Doc{}), impl.ErrBad}, {keeps(wideDoc("a", 4001)), impl.ErrBad}, {drops("none"), impl.ErrMissing}, {drops(""), impl.ErrMissing}, {drops(strings.Repeat("e", 31)), impl.ErrMissing}, {drops("e"), impl.ErrLong}, {keeps(docWith("e")), impl.ErrLong}, {recovers(), impl.ErrBad}, {impl.StoreOp{Kind: 7}, impl.ErrBad}} {
		o := lastStore(t, wide(), append(full[:len(full):len(full)], c.op))
		if !sameStoreObs(o, impl.StoreObs{Code: c.code, Seq: len(full), Bytes: impl.MaxBytes, Live: 9}) {
			t.Errorf("%s: %s, want code %d", shortStoreOp(c.op), shortStoreObs(o), c.code)
		}
	}
}

// What its kind does not look at makes an operation no other.
func TestStoreOfFilledOperations(t *testing.T) {
	rubbish := []impl.StoreOp{
		{N: -9, At: -9, Flip: true, Id: "a b", Doc: docWith("", textsIn("none", "\xff")), Ask: impl.Ask{Size: -1}},
		{N: 99, At: 3, Flip: true, Id: "a", Doc: docWith("a"), Ask: impl.Ask{Query: queryOf(t, "*"), Size: 9}},
		{N: 1, At: 0, Id: "b", Doc: docWith("b", numbersIn("n", 7)), Ask: impl.Ask{Query: queryOf(t, "none:x"), Behind: true, Last: last("a", 1, 2, 3)}},
		{N: math.MinInt, At: math.MaxInt, Flip: true, Id: strings.Repeat("x", 1<<20), Doc: docWith(strings.Repeat("x", 1<<20)), Ask: impl.Ask{Sort: up("n", "n", "n", "n", "n"), Collapse: "n"}},
	}
	plain := storeOps(t, "+a +b ? s +c -a ? r !20 ? -b r ? +a +d !30~16 s r ? -z s !0 r ? r -a +b ? !99~99 !1 r ?")
	want := mustStore(t, small(), plain)
	wantSameStore(t, small(), plain)
	for _, other := range rubbish {
		ops := slices.Clone(plain)
		for i, op := range plain {
			filled := other
			filled.Kind = op.Kind
			switch op.Kind {
			case impl.SPut:
				filled.Doc = op.Doc
			case impl.SDelete:
				filled.Id = op.Id
			case impl.SFind:
				filled.Ask = op.Ask
			case impl.SCrash:
				filled.N, filled.Flip = op.N, op.Flip
				if op.Flip {
					filled.At = op.At
				}
			}
			ops[i] = filled
		}
		wantStore(t, small(), ops, want, impl.OK)
	}
}

// With a code nothing is done: what comes behind tells the same as without it.
func TestStoreChangesNothingWithACode(t *testing.T) {
	wrong := []impl.StoreOp{keeps(docWith("a", textsIn("none", "x"))), drops("none"), finds(impl.Ask{}), recovers(), {Kind: 7}, {}}
	plain := storeOps(t, "+a +b s +c -a ? !20 r ? +a ? !8~7 r ? -b s !0 r ?")
	want := mustStore(t, small(), plain)
	for at := range len(plain) + 1 {
		down := at > 0 && plain[at-1].Kind == impl.SCrash
		for _, op := range append(wrong, keeps(docWith("z")), syncs(), crashes(0)) {
			more := op
			if down == (more.Kind == impl.SRecover) || !down && !slices.ContainsFunc(wrong, func(w impl.StoreOp) bool { return shortStoreOp(w) == shortStoreOp(more) }) {
				continue // it has no code there
			}
			list := mustStore(t, small(), slices.Insert(slices.Clone(plain), at, more, more))
			if list[at].Code == impl.OK || list[at].Code != list[at+1].Code {
				t.Errorf("%s at %d: %s", shortStoreOp(more), at, shortStoreObs(list[at]))
			}
			list = slices.Delete(list, at, at+2)
			if !slices.EqualFunc(list, want, sameStoreObs) {
				t.Errorf("%s at %d changes what comes behind", shortStoreOp(more), at)
			}
		}
	}
}
