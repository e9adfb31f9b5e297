package tests

import (
	"math/rand"
	"runtime"
	"slices"
	"strings"
	"sync"
	"testing"
	"time"

	"loop.example/g00018/impl"
)

// scriptCases are scripts of which some lines are bad and some have a code.
func scriptCases() []string {
	list := []string{"", "\n", "x", "refresh", cribLines(), cribLines() + "mark a cat\nmark c cat\nfind 9 *\ntags *\nhint cat", "put a t 1 x\nrefresh\nmark a *", "put a t 1 x\nrefresh\nmark a x", strings.Repeat("refresh\n", 201), strings.Repeat("x\n", 40000)}
	source := rand.New(rand.NewSource(98))
	for range 20 {
		list = append(list, randomScript(source, 120))
	}
	return list
}

func TestScriptAnswersNewMemory(t *testing.T) {
	for _, text := range scriptCases() {
		text = strings.Clone(text)
		wantOwnMemory(t, "RunScript", impl.RunScript(text), text)
	}
}

// The text may be a piece of a greater one; what stands beside it is not looked at.
func TestScriptOfAPieceOfAText(t *testing.T) {
	for _, text := range scriptCases() {
		want := impl.RunScript(strings.Clone(text))
		for _, beside := range []string{" ", "x", "\n", "refresh\n", "\xff"} {
			whole := beside + text + beside
			wantScript(t, whole[len(beside):len(beside)+len(text)], want)
		}
	}
}

// Documents, versions and refreshes of one script are not to be seen in the next.
func TestScriptKeepsNothing(t *testing.T) {
	asks := "find 9 *\ntags *\nsum *\nmark a cat\nhint cat\ndel a\nrefresh\nput a t 1\n"
	empty := "hits 0\nend\nsum 0 0\nerror 8\nhint\nerror 8\nok 0 0\nok 1\n"
	wantScript(t, asks, empty)
	for _, text := range scriptCases() {
		want := impl.RunScript(text)
		wantScript(t, asks, empty)
		wantScript(t, text, want)
	}
}

// Scripts at the same time do not meet each other.
func TestScriptsAtOnce(t *testing.T) {
	cases := scriptCases()
	var want []string
	for _, text := range cases {
		want = append(want, scriptOf(text))
	}
	var all sync.WaitGroup
	wrong := make([]int, 4*len(cases))
	for i := range wrong {
		all.Go(func() {
			wrong[i] = btoi(impl.RunScript(cases[i%len(cases)]) != want[i%len(cases)])
		})
	}
	all.Wait()
	if slices.Contains(wrong, 1) {
		t.Errorf("these scripts tell something else: %v", wrong)
	}
}

// The same script tells the same each time, however its goroutines are laid out.
func TestScriptTellsTheSameEachTime(t *testing.T) {
	text := randomScript(rand.New(rand.NewSource(99)), 190) + "\n" + "refresh\nfind 9 *\ntags *\nhint cat"
	want := scriptOf(text)
	defer runtime.GOMAXPROCS(runtime.GOMAXPROCS(0))
	for _, n := range []int{1, 2, 8} {
		runtime.GOMAXPROCS(n)
		for range 20 {
			wantScript(t, text, want)
		}
	}
}

// No goroutine is left when a script has answered, be it done or not.
func TestScriptLeavesNoGoroutine(t *testing.T) {
	before := runtime.NumGoroutine()
	for range 100 {
		for _, text := range []string{"", "x\nx\n", cribLines() + "find 9 *\nfind 9 (", strings.Repeat("refresh\n", 201), strings.Repeat("refresh\n", 1000), strings.Repeat(" ", 65537)} {
			impl.RunScript(text)
		}
	}
	// One that has told that it is done may take a moment to be gone.
	for range 100 {
		if runtime.NumGoroutine() <= before {
			return
		}
		time.Sleep(10 * time.Millisecond)
	}
	t.Errorf("%d goroutines, at first %d", runtime.NumGoroutine(), before)
}

// The greatest scripts end soon: a full index that is searched with great queries.
func TestScriptEndsSoon(t *testing.T) {
	var b strings.Builder
	for i := range 10 {
		b.WriteString("put d" + string(rune('0'+i)) + " t 1 " + crowdedText(i) + crowdedText(i+20) + "\nrefresh\n")
	}
	wild := strings.Repeat(`~"*k*1*"^9 `, 60)
	for b.Len() < 60000 {
		b.WriteString("find 1000 " + wild + "\ntags " + wild + "\nmark d3 " + wild + "\nsum " + strings.Repeat("k123~2 ", 60) + "\nhint k12\n")
	}
	start := time.Now()
	told := impl.RunScript(b.String())
	if strings.Count(told, "\n") < 100 || strings.Contains(told, "error") || strings.Contains(told, "bad") {
		t.Errorf("%d lines are told: %s", strings.Count(told, "\n"), short(told))
	}
	if spent := time.Since(start); spent > 30*time.Second {
		t.Errorf("it took %v", spent)
	}
}
