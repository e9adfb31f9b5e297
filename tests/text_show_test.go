package tests

import "fmt"

// short keeps a failure's line readable where the text has MaxText bytes.
func short(s string) string {
	if len(s) <= 60 {
		return fmt.Sprintf("%q", s)
	}
	return fmt.Sprintf("%q.. (%d bytes)", s[:60], len(s))
}

func shortList(list []int) string {
	if len(list) <= 20 {
		return fmt.Sprint(list)
	}
	return fmt.Sprintf("%v.. (%d numbers)", list[:20], len(list))
}
