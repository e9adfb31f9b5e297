package tests

import (
	"fmt"
	"math/rand"
	"strings"
	"testing"

	"loop.example/g00018/impl"
)

// P23: whatever the lines are, each is answered by what the chapters' calls tell.
func TestScriptAnswersAsTheCallsDo(t *testing.T) {
	source := rand.New(rand.NewSource(100))
	told := map[string]int{}
	for range 300 {
		text := randomScript(source, 150)
		wantSameScript(t, text)
		for _, line := range strings.Split(impl.RunScript(text), "\n") {
			word, rest, _ := strings.Cut(line, " ")
			told[word]++
			if word == "error" {
				told[line]++
			}
			if rest != "" {
				told[word+" .."]++
			}
		}
	}
	for _, word := range []string{"bad", "ok ..", "hits ..", "end", "sum ..", "hint", "hint ..", "error 1", "error 2", "error 3", "error 4", "error 5", "error 8", "error 10", "error 11", "error 12"} {
		if told[word] < 5 {
			t.Errorf("%q is told %d times", word, told[word])
		}
	}
}

// Every short script of these lines.
func TestEveryShortScript(t *testing.T) {
	lines := []string{"put a t 1 cat", "put a u 2", "put b t 3 cats", "del a", "refresh", "find 1 cat", "mark a cat", "hint cat", "x", ""}
	for size := range 5 {
		total := 1
		for range size {
			total *= len(lines)
		}
		for n := range total {
			var text []string
			for rest := n; len(text) < size; rest /= len(lines) {
				text = append(text, lines[rest%len(lines)])
			}
			wantSameScript(t, strings.Join(text, "\n"))
		}
	}
}

// What a script answers begins with what it answers of its first lines.
func TestScriptLineByLine(t *testing.T) {
	source := rand.New(rand.NewSource(101))
	for range 20 {
		text := randomScript(source, 60)
		whole := impl.RunScript(text)
		lines := strings.SplitAfter(text, "\n")
		for i := range lines {
			part := impl.RunScript(strings.Join(lines[:i], ""))
			if !strings.HasPrefix(whole, part) {
				t.Fatalf("%s: %d lines answer something else than in %s", short(text), i, short(whole))
			}
		}
	}
}

// Lines that are none, or without words, change nothing of what the others answer.
func TestScriptBadLinesChangeNothing(t *testing.T) {
	source := rand.New(rand.NewSource(102))
	none := []string{"x", "", "   ", "put", "put a t x cat", "del a b", "refresh now", "find", "hint", "mark", "\t"}
	for range 40 {
		var mixed []string
		var answered []string
		lines := strings.Split(randomScript(source, 60), "\n")
		for _, line := range lines {
			if !isOperation(line) {
				continue
			}
			answered = append(answered, line)
			mixed = append(mixed, line)
			for range source.Intn(4) {
				mixed = append(mixed, none[source.Intn(len(none))])
			}
		}
		var left []string
		for _, line := range strings.SplitAfter(impl.RunScript(strings.Join(mixed, "\n")), "\n") {
			if line != "bad\n" {
				left = append(left, line)
			}
		}
		wantScript(t, strings.Join(answered, "\n"), strings.Join(left, ""))
	}
}

// A line that only looks changes nothing of what the others answer, however often it
// stands there.
func TestScriptLookingChangesNothing(t *testing.T) {
	source := rand.New(rand.NewSource(103))
	for range 30 {
		var writes, mixed []string
		for range 40 {
			line := fmt.Sprintf("put %s t%d %d %s", randomScriptId(source), source.Intn(3), source.Intn(9), randomScriptWord(source))
			switch source.Intn(4) {
			case 0:
				line = "del " + randomScriptId(source)
			case 1:
				line = "refresh"
			}
			writes = append(writes, line)
			mixed = append(mixed, line)
			for range source.Intn(4) {
				mixed = append(mixed, []string{"find 9 *", "find 1 cat", "tags *", "sum cat", "mark a cat", "hint cat", "find 9 (", "mark b ("}[source.Intn(8)])
			}
		}
		var left []string
		x := &scriptTelling{}
		for _, line := range mixed {
			if answer := x.line(line); strings.HasPrefix(line, "put") || strings.HasPrefix(line, "del") || line == "refresh" {
				left = append(left, answer)
			}
		}
		wantSameScript(t, strings.Join(mixed, "\n"))
		wantScript(t, strings.Join(writes, "\n"), strings.Join(left, ""))
	}
}

// Behind a refresh all is answered of what the puts and deletes leave, in whatever
// order and with whatever refreshes between they came.
func TestScriptAnswersOfWhatIsLeft(t *testing.T) {
	source := rand.New(rand.NewSource(104))
	asks := "find 9 cat\nfind 9 *\nfind 3 dog run*\ntags *\ntags cat\nsum *\nsum dog\nmark a cat\nmark c dog\nhint cat\nhint dogs\n"
	for range 40 {
		last := map[string]string{}
		text := ""
		for range 60 {
			id := string(rune('a' + source.Intn(5)))
			switch source.Intn(5) {
			case 0:
				text += "del " + id + "\n"
				delete(last, id)
			case 1:
				text += "refresh\n"
			default:
				line := fmt.Sprintf("put %s t%d %d %s %s\n", id, source.Intn(3), source.Intn(9), []string{"cat", "dogs", "running"}[source.Intn(3)], []string{"cats", "dog", "the hut"}[source.Intn(3)])
				text += line
				last[id] = line
			}
		}
		told := impl.RunScript(text + "refresh\n" + asks)
		few := ""
		for _, id := range []string{"c", "a", "e", "b", "d"} {
			few += last[id]
		}
		other := impl.RunScript(few + "refresh\n" + asks)
		_, told = cutLine(told, strings.Count(text, "\n")+1)
		_, other = cutLine(other, len(last)+1)
		if told != other {
			t.Errorf("behind %q: %q, want %q", text, told, other)
		}
	}
}

// cutLine tells the first so many lines, and the others.
func cutLine(text string, lines int) (string, string) {
	at := 0
	for range lines {
		at += strings.IndexByte(text[at:], '\n') + 1
	}
	return text[:at], text[at:]
}
