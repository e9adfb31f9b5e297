package tests

import (
	"fmt"
	"slices"
	"strconv"
	"strings"
	"testing"

	"loop.example/g00018/impl"
)

// What the document says of automata, told a second time: a machine goes from key
// to key, and its least automaton is made by holding its states against each
// other. Nothing is bounded here: what the program refuses has its automaton too.
type machine struct {
	runes  []int // rising; the characters that are told by themselves
	first  string
	follow func(at string, r int) string // r is -1 for all other characters
	final  func(at string) bool
}

// A grid tells of each state where it goes with each of the runes, and with all
// other characters behind them.
type grid struct {
	runes  []int
	to     [][]int
	finals []bool
}

func (m machine) grid() grid {
	g := grid{runes: m.runes}
	keys := []string{m.first}
	places := map[string]int{m.first: 0}
	for at := 0; at < len(keys); at++ {
		var row []int
		for _, r := range append(slices.Clone(m.runes), -1) {
			key := m.follow(keys[at], r)
			place, known := places[key]
			if !known {
				place = len(keys)
				places[key] = place
				keys = append(keys, key)
			}
			row = append(row, place)
		}
		g.to = append(g.to, row)
		g.finals = append(g.finals, m.final(keys[at]))
	}
	return g
}

// kinds tells of each state its kind: those of one kind accept the same.
func (g grid) kinds() []int {
	kinds := make([]int, len(g.to))
	for count := 0; ; {
		names := map[string]int{}
		next := make([]int, len(g.to))
		for at, row := range g.to {
			name := []byte(fmt.Sprint(g.finals[at], kinds[at]))
			for _, to := range row {
				name = strconv.AppendInt(append(name, ' '), int64(kinds[to]), 10)
			}
			kind, known := names[string(name)]
			if !known {
				kind = len(names)
				names[string(name)] = kind
			}
			next[at] = kind
		}
		if len(names) == count {
			return next
		}
		kinds, count = next, len(names)
	}
}

// alive tells of each state whether it accepts anything.
func (g grid) alive() []bool {
	alive := slices.Clone(g.finals)
	for changed := true; changed; {
		changed = false
		for at, row := range g.to {
			if !alive[at] && slices.ContainsFunc(row, func(to int) bool { return alive[to] }) {
				alive[at], changed = true, true
			}
		}
	}
	return alive
}

func (m machine) least() impl.Dfa {
	g := m.grid()
	kinds, alive := g.kinds(), g.alive()
	var d impl.Dfa
	met := []int{0}
	numberOf := func(state int) int {
		if !alive[state] {
			return -1
		}
		place := slices.IndexFunc(met, func(other int) bool { return kinds[other] == kinds[state] })
		if place < 0 {
			place = len(met)
			met = append(met, state)
		}
		return place
	}
	for at := 0; at < len(met); at++ {
		row := g.to[met[at]]
		rest := row[len(g.runes)]
		state := impl.DfaState{Final: g.finals[met[at]]}
		for i, r := range g.runes {
			if kinds[row[i]] != kinds[rest] {
				state.Arcs = append(state.Arcs, impl.DfaArc{Rune: r, To: numberOf(row[i])})
			}
		}
		state.Else = numberOf(rest)
		d.States = append(d.States, state)
	}
	return d
}

func distinct(list []int) []int {
	list = slices.Clone(list)
	slices.Sort(list)
	return slices.Compact(list)
}

// A token of a pattern is a character, or one of these two.
const (
	oneToken = -10
	runToken = -11
)

func tokensOf(pattern string) []int {
	var list []int
	chars := []rune(pattern)
	for i := 0; i < len(chars); i++ {
		switch {
		case chars[i] == '*':
			list = append(list, runToken)
		case chars[i] == '?':
			list = append(list, oneToken)
		case chars[i] == '\\' && i+1 < len(chars):
			i++
			list = append(list, int(chars[i]))
		default:
			list = append(list, int(chars[i]))
		}
	}
	return list
}

// fitsTokens is the meaning of a pattern, word by word.
func fitsTokens(tokens []int, text []rune) bool {
	if len(tokens) == 0 {
		return len(text) == 0
	}
	if tokens[0] == runToken {
		return fitsTokens(tokens[1:], text) || len(text) > 0 && fitsTokens(tokens, text[1:])
	}
	return len(text) > 0 && (tokens[0] == oneToken || tokens[0] == int(text[0])) && fitsTokens(tokens[1:], text[1:])
}

func fitsPattern(pattern, text string) bool {
	return fitsTokens(tokensOf(pattern), []rune(text))
}

// patternMachine goes by sets of places: a byte of the key for each place.
func patternMachine(pattern string) machine {
	tokens := tokensOf(pattern)
	spread := func(set []byte) string {
		for i, token := range tokens {
			if set[i] == 1 && token == runToken {
				set[i+1] = 1
			}
		}
		return string(set)
	}
	first := make([]byte, len(tokens)+1)
	first[0] = 1
	follow := func(at string, r int) string {
		next := make([]byte, len(at))
		for i, token := range tokens {
			if at[i] == 0 {
				continue
			}
			if token == runToken {
				next[i] = 1
			} else if token == oneToken || token == r {
				next[i+1] = 1
			}
		}
		return spread(next)
	}
	runes := slices.DeleteFunc(distinct(tokens), func(r int) bool { return r < 0 })
	return machine{runes, spread(first), follow, func(at string) bool { return at[len(tokens)] == 1 }}
}

// knownEdits is the meaning of a distance: the first character of one is left
// out, that of the other put in, or the two stand for each other.
func knownEdits(a, b []rune) int {
	known := map[[2]int]int{}
	var edits func(i, j int) int
	edits = func(i, j int) int {
		if i == len(a) || j == len(b) {
			return len(a) - i + len(b) - j
		}
		if n, ok := known[[2]int{i, j}]; ok {
			return n
		}
		changed := edits(i+1, j+1)
		if a[i] != b[j] {
			changed++
		}
		n := min(changed, 1+edits(i+1, j), 1+edits(i, j+1))
		known[[2]int{i, j}] = n
		return n
	}
	return edits(0, 0)
}

// nearMachine goes by distances: a byte of the key for that of each beginning of
// the word to what was read, and one for how many characters were read.
func nearMachine(word string, k, head int) machine {
	chars := []rune(word)
	first := []byte{0}
	for i := range len(chars) + 1 {
		first = append(first, byte(min(i, k+1)))
	}
	follow := func(at string, r int) string {
		read := int(at[0])
		if read < head && int(chars[read]) != r {
			return strings.Repeat(string(rune(k+1)), len(at))
		}
		next := []byte{byte(min(read+1, 50)), byte(min(int(at[1])+1, k+1))}
		if read >= head {
			next[0] = byte(head)
		}
		for i, c := range chars {
			best := int(at[i+1])
			if int(c) != r {
				best++
			}
			best = min(best, int(at[i+2])+1, int(next[i+1])+1, k+1)
			next = append(next, byte(best))
		}
		return string(next)
	}
	final := func(at string) bool { return int(at[0]) >= head && int(at[len(chars)+1]) <= k }
	var runes []int
	for _, c := range chars {
		runes = append(runes, int(c))
	}
	return machine{distinct(runes), string(first), follow, final}
}

// setMachine goes through two automata at once.
func setMachine(a, b impl.Dfa, accept func(inA, inB bool) bool) machine {
	var runes []int
	for _, d := range []impl.Dfa{a, b} {
		for _, state := range d.States {
			for _, arc := range state.Arcs {
				runes = append(runes, arc.Rune)
			}
		}
	}
	parts := func(at string) (int, int) {
		var p, q int
		fmt.Sscan(at, &p, &q)
		return p, q
	}
	follow := func(at string, r int) string {
		p, q := parts(at)
		return fmt.Sprint(goOn(a, p, r), " ", goOn(b, q, r))
	}
	final := func(at string) bool {
		p, q := parts(at)
		return accept(p >= 0 && a.States[p].Final, q >= 0 && b.States[q].Final)
	}
	return machine{distinct(runes), "0 0", follow, final}
}

func goOn(d impl.Dfa, state, r int) int {
	if state < 0 {
		return -1
	}
	for _, arc := range d.States[state].Arcs {
		if arc.Rune == r {
			return arc.To
		}
	}
	return d.States[state].Else
}

// accepted is the meaning of an automaton.
func accepted(d impl.Dfa, text string) bool {
	state := 0
	for _, r := range text {
		state = goOn(d, state, int(r))
	}
	return state >= 0 && d.States[state].Final
}

func sameDfa(a, b impl.Dfa) bool {
	return slices.EqualFunc(a.States, b.States, func(x, y impl.DfaState) bool {
		return x.Final == y.Final && x.Else == y.Else && slices.Equal(x.Arcs, y.Arcs)
	})
}

func copyDfa(d impl.Dfa) impl.Dfa {
	c := impl.Dfa{States: slices.Clone(d.States)}
	for i := range c.States {
		c.States[i].Arcs = slices.Clone(c.States[i].Arcs)
	}
	return c
}

// dfaState is written as: is it final, where do all others go, and pairs of a
// character and where it goes.
func dfaState(final bool, rest int, arcs ...int) impl.DfaState {
	state := impl.DfaState{Final: final, Else: rest}
	for i := 0; i < len(arcs); i += 2 {
		state.Arcs = append(state.Arcs, impl.DfaArc{Rune: arcs[i], To: arcs[i+1]})
	}
	return state
}

func dfaOf(states ...impl.DfaState) impl.Dfa {
	return impl.Dfa{States: states}
}

func noTexts() impl.Dfa {
	return dfaOf(dfaState(false, -1))
}

func allTexts() impl.Dfa {
	return dfaOf(dfaState(true, 0))
}

// chainDfa accepts just the text of so many letters a less one: each state is
// needed.
func chainDfa(states int) impl.Dfa {
	var d impl.Dfa
	for i := range states - 1 {
		d.States = append(d.States, dfaState(false, -1, 'a', i+1))
	}
	d.States = append(d.States, dfaState(true, -1))
	return d
}

func shortDfa(d impl.Dfa) string {
	arcs := 0
	for _, state := range d.States {
		arcs += len(state.Arcs)
	}
	if arcs > 60 || len(d.States) > 40 {
		return fmt.Sprintf("(%d states, %d arcs)", len(d.States), arcs)
	}
	return fmt.Sprintf("%+v", d.States)
}

// wantDfa holds an answer against the automaton that the document asks for.
func wantDfa(t *testing.T, what string, d impl.Dfa, code int, want impl.Dfa) {
	t.Helper()
	if len(want.States) > impl.MaxDfa {
		wantNoDfa(t, what, d, code, impl.ErrMany)
		return
	}
	if code != impl.OK || !sameDfa(d, want) {
		t.Errorf("%s: %s, code %d, want %s", what, shortDfa(d), code, shortDfa(want))
	}
	if !impl.DfaOK(d) {
		t.Errorf("%s: what it tells is not valid: %s", what, shortDfa(d))
	}
}

func wantNoDfa(t *testing.T, what string, d impl.Dfa, code, wantCode int) {
	t.Helper()
	if code != wantCode || d.States != nil {
		t.Errorf("%s: %s, code %d, want code %d", what, shortDfa(d), code, wantCode)
	}
}

func wantAccepts(t *testing.T, d impl.Dfa, s string, want bool, wantCode int) {
	t.Helper()
	if ok, code := impl.Accepts(d, s); ok != want || code != wantCode {
		t.Errorf("Accepts of %s by %s: %v, code %d, want %v, code %d", short(s), shortDfa(d), ok, code, want, wantCode)
	}
}

// textsUpTo tells all texts of at most size of these characters.
func textsUpTo(size int, chars string) []string {
	all := []string{""}
	last := all
	for range size {
		var next []string
		for _, text := range last {
			for _, c := range chars {
				next = append(next, text+string(c))
			}
		}
		all = append(all, next...)
		last = next
	}
	return all
}
