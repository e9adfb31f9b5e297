package tests

import (
	"fmt"

	"loop.example/g00018/impl"
)

// short keeps a failure's line readable where the text has MaxText bytes.
func short(s string) string {
	if len(s) <= 60 {
		return fmt.Sprintf("%q", s)
	}
	return fmt.Sprintf("%q.. (%d bytes)", s[:60], len(s))
}

func shortList(list []int) string {
	if len(list) <= 20 {
		return fmt.Sprint(list)
	}
	return fmt.Sprintf("%v.. (%d numbers)", list[:20], len(list))
}

func shortAnalyzer(a impl.Analyzer) string {
	s := fmt.Sprintf("%+v", a)
	if len(s) <= 200 {
		return s
	}
	return fmt.Sprintf("%s.. (%d stop words, %d synonyms, grams %d to %d)", s[:200], len(a.Stops), len(a.Synonyms), a.Lo, a.Hi)
}

func shortBytes(b []byte) string {
	if len(b) <= 20 {
		return fmt.Sprint(b)
	}
	return fmt.Sprintf("%v.. (%d bytes)", b[:20], len(b))
}
