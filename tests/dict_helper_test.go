package tests

import (
	"bytes"
	"fmt"
	"slices"
	"strings"
	"testing"

	"loop.example/g00018/impl"
)

// What the document says of dictionaries, told a second time: a state is the set
// of the endings it accepts, so that no two states can accept the same. Nothing
// is bounded here: what BuildDict refuses has its automaton too.

func automatonOf(terms []string) impl.Dict {
	sets := [][]string{terms}
	places := map[string]int{setKey(terms): 0}
	d := impl.Dict{Count: len(terms)}
	for at := 0; at < len(sets); at++ {
		state := impl.DictState{Final: slices.Contains(sets[at], "")}
		for label := range 256 {
			var rest []string
			ahead := 0
			for i, ending := range sets[at] {
				if ending != "" && int(ending[0]) == label {
					if rest == nil {
						ahead = i
					}
					rest = append(rest, ending[1:])
				}
			}
			if rest == nil {
				continue
			}
			to, known := places[setKey(rest)]
			if !known {
				to = len(sets)
				places[setKey(rest)] = to
				sets = append(sets, rest)
			}
			state.Arcs = append(state.Arcs, impl.DictArc{Label: label, To: to, Ahead: ahead})
		}
		d.States = append(d.States, state)
	}
	return d
}

func setKey(endings []string) string {
	var key strings.Builder
	for _, ending := range endings {
		fmt.Fprintf(&key, "%d:%s", len(ending), ending)
	}
	return key.String()
}

// bodyOf tells the bytes of a dictionary, right or wrong, without their sum.
func bodyOf(d impl.Dict) []byte {
	b, _ := putOf(len(d.States))
	for _, state := range d.States {
		sign := 2 * len(state.Arcs)
		if state.Final {
			sign++
		}
		b = putBehind(b, sign)
		for _, arc := range state.Arcs {
			b = putBehind(append(b, byte(arc.Label)), arc.To)
		}
	}
	return b
}

func putBehind(b []byte, v int) []byte {
	number, _ := putOf(v)
	return append(b, number...)
}

func summed(body []byte) []byte {
	sum := knownSum(body)
	return append(slices.Clone(body), byte(sum/16777216), byte(sum/65536%256), byte(sum/256%256), byte(sum%256))
}

func sameDict(a, b impl.Dict) bool {
	return a.Count == b.Count && slices.EqualFunc(a.States, b.States, func(x, y impl.DictState) bool {
		return x.Final == y.Final && slices.Equal(x.Arcs, y.Arcs)
	})
}

func noDict(d impl.Dict) bool {
	return d.Count == 0 && d.States == nil
}

func copyDict(d impl.Dict) impl.Dict {
	c := impl.Dict{Count: d.Count, States: slices.Clone(d.States)}
	for i := range c.States {
		c.States[i].Arcs = slices.Clone(c.States[i].Arcs)
	}
	return c
}

func shortTerms(terms []string) string {
	s := fmt.Sprintf("%q", terms)
	if len(s) <= 200 {
		return s
	}
	return fmt.Sprintf("%s.. (%d terms)", s[:200], len(terms))
}

func shortDict(d impl.Dict) string {
	s := fmt.Sprintf("%+v", d)
	if len(s) <= 400 {
		return s
	}
	return fmt.Sprintf("%s.. (%d states)", s[:400], len(d.States))
}

func wantBuilt(t *testing.T, terms []string) impl.Dict {
	t.Helper()
	d, code := impl.BuildDict(terms)
	if want := automatonOf(terms); code != impl.OK || !sameDict(d, want) {
		t.Fatalf("BuildDict of %s: %s, code %d, want %s", shortTerms(terms), shortDict(d), code, shortDict(want))
	}
	if !impl.DictOK(d) {
		t.Errorf("DictOK of the dictionary of %s: false", shortTerms(terms))
	}
	return d
}

func wantUnbuilt(t *testing.T, terms []string, wantCode int) {
	t.Helper()
	if d, code := impl.BuildDict(terms); code != wantCode || !noDict(d) {
		t.Errorf("BuildDict of %s: %s, code %d, want code %d", shortTerms(terms), shortDict(d), code, wantCode)
	}
}

func wantFind(t *testing.T, d impl.Dict, term string, want, wantCode int) {
	t.Helper()
	if n, code := impl.DictFind(d, term); n != want || code != wantCode {
		t.Errorf("DictFind of %s in %s: %d, code %d, want %d, code %d", short(term), shortDict(d), n, code, want, wantCode)
	}
}

func wantTerm(t *testing.T, d impl.Dict, n int, want string, wantCode int) {
	t.Helper()
	if term, code := impl.DictTerm(d, n); term != want || code != wantCode {
		t.Errorf("DictTerm of %d in %s: %s, code %d, want %s, code %d", n, shortDict(d), short(term), code, short(want), wantCode)
	}
}

func wantRange(t *testing.T, d impl.Dict, prefix string, wantFirst, wantCount, wantCode int) {
	t.Helper()
	if first, count, code := impl.DictRange(d, prefix); first != wantFirst || count != wantCount || code != wantCode {
		t.Errorf("DictRange of %s in %s: %d, %d, code %d, want %d, %d, code %d", short(prefix), shortDict(d), first, count, code, wantFirst, wantCount, wantCode)
	}
}

func wantRead(t *testing.T, b []byte, want impl.Dict, wantCode int) {
	t.Helper()
	if d, code := impl.ReadDict(b); code != wantCode || !sameDict(d, want) {
		t.Errorf("ReadDict of %s: %s, code %d, want %s, code %d", shortBytes(b), shortDict(d), code, shortDict(want), wantCode)
	}
}

// wantThrough holds the bytes of a valid dictionary against the document's words,
// there and back.
func wantThrough(t *testing.T, d impl.Dict) {
	t.Helper()
	want := summed(bodyOf(d))
	if b, code := impl.DictBytes(d); code != impl.OK || !bytes.Equal(b, want) {
		t.Errorf("DictBytes of %s: %s, code %d, want %s", shortDict(d), shortBytes(b), code, shortBytes(want))
	}
	wantRead(t, want, d, impl.OK)
}

// wantAsked asks a dictionary for a text as a term and as a beginning.
func wantAsked(t *testing.T, d impl.Dict, terms []string, text string) {
	t.Helper()
	if n := slices.Index(terms, text); n < 0 {
		wantFind(t, d, text, 0, impl.ErrMissing)
	} else {
		wantFind(t, d, text, n, impl.OK)
	}
	begins := func(term string) bool { return strings.HasPrefix(term, text) }
	first := slices.IndexFunc(terms, begins)
	count := 0
	for _, term := range terms {
		if begins(term) {
			count++
		}
	}
	if count == 0 {
		wantRange(t, d, text, 0, 0, impl.ErrMissing)
	} else {
		wantRange(t, d, text, first, count, impl.OK)
	}
}

// wantHolds holds all that is promised of the dictionary of a few terms.
func wantHolds(t *testing.T, terms []string) {
	t.Helper()
	d := wantBuilt(t, terms)
	wantThrough(t, d)
	wantAsked(t, d, terms, "")
	for n, term := range terms {
		wantTerm(t, d, n, term, impl.OK)
		for end := 1; end <= len(term); end++ {
			wantAsked(t, d, terms, term[:end])
		}
		for _, other := range []string{"\x00", "a", "s", "\xff"} {
			wantAsked(t, d, terms, term+other)
			wantAsked(t, d, terms, other+term)
			wantAsked(t, d, terms, term[:len(term)-1]+other)
		}
	}
	for _, n := range []int{-1 << 63, -2, -1, len(terms), len(terms) + 1, 1<<63 - 1} {
		wantTerm(t, d, n, "", impl.ErrMissing)
	}
}

// wantNoDict is for a Dict that is none: every call must say so.
func wantNoDict(t *testing.T, d impl.Dict, what string) {
	t.Helper()
	if impl.DictOK(d) {
		t.Errorf("%s: DictOK of %s: true", what, shortDict(d))
		return
	}
	for _, text := range []string{"", "a", "cat", strings.Repeat("a", impl.MaxText)} {
		wantFind(t, d, text, 0, impl.ErrBad)
		wantRange(t, d, text, 0, 0, impl.ErrBad)
	}
	for _, text := range []string{strings.Repeat("a", impl.MaxText+1), strings.Repeat("c", impl.MaxText*2)} {
		wantFind(t, d, text, 0, impl.ErrLong)
		wantRange(t, d, text, 0, 0, impl.ErrLong)
	}
	for _, n := range []int{-1, 0, 1, d.Count, 1 << 40} {
		wantTerm(t, d, n, "", impl.ErrBad)
	}
	if b, code := impl.DictBytes(d); code != impl.ErrBad || b != nil {
		t.Errorf("%s: DictBytes of %s: %s, code %d", what, shortDict(d), shortBytes(b), code)
	}
}

// wantNoAutomaton is for states that are those of no dictionary, so that their
// bytes are none either. What can't be told by bytes is not for it.
func wantNoAutomaton(t *testing.T, d impl.Dict, what string) {
	t.Helper()
	wantNoDict(t, d, what)
	wantRead(t, summed(bodyOf(d)), impl.Dict{}, impl.ErrCorrupt)
}

// bitTerms tells, of a rising list, the terms whose bits are set.
func bitTerms(list []string, set int) []string {
	var terms []string
	for i, term := range list {
		if set>>i&1 == 1 {
			terms = append(terms, term)
		}
	}
	return terms
}

// wordsUpTo tells, rising, all words of 1 to size of these letters.
func wordsUpTo(size int, letters string) []string {
	var all []string
	last := []string{""}
	for range size {
		var next []string
		for _, word := range last {
			for i := range len(letters) {
				next = append(next, word+letters[i:i+1])
			}
		}
		all = append(all, next...)
		last = next
	}
	slices.Sort(all)
	return all
}
