package tests

import (
	"strings"
	"testing"

	"loop.example/g00018/impl"
)

func TestStemRules(t *testing.T) {
	for _, c := range [][2]string{
		// sses, at its shortest, and what only looks like it
		{"sses", "ss"}, {"asses", "ass"}, {"passes", "pass"}, {"ses", "ses"}, {"uses", "use"}, {"buses", "buse"},
		// ies, of 3, 4 and 5 letters
		{"ies", "ies"}, {"ties", "ties"}, {"flies", "fli"}, {"boies", "boy"}, {"aaies", "aay"}, {"ladies", "ladi"}, {"movies", "movi"},
		// s, of 3 and 4 letters, behind any letter, and not behind s, u, i
		{"gas", "gas"}, {"abs", "abs"}, {"tabs", "tab"}, {"toes", "toe"}, {"boys", "boy"}, {"flys", "fli"}, {"yes", "yes"}, {"eyes", "eye"},
		{"ass", "ass"}, {"bass", "bass"}, {"bus", "bus"}, {"onus", "onus"}, {"bonus", "bonus"}, {"his", "his"}, {"axis", "axis"}, {"basis", "basis"},
		// ing, with 2 and 3 letters ahead, with a vowel and without
		{"ing", "ing"}, {"aing", "aing"}, {"aaing", "aaing"}, {"aaaing", "aaa"}, {"doing", "doing"}, {"eating", "eate"}, {"acting", "act"},
		{"string", "string"}, {"strings", "string"}, {"bcding", "bcding"}, {"trying", "tri"}, {"cryings", "cri"}, {"dying", "dying"}, {"springing", "spring"},
		// ed, likewise
		{"aed", "aed"}, {"aaed", "aaed"}, {"aaaed", "aaa"}, {"bred", "bred"}, {"brred", "brred"}, {"need", "need"}, {"freed", "fre"}, {"acted", "act"}, {"tryed", "tri"},
		// one of the two goes, not both
		{"bleeding", "bleed"}, {"ringed", "ring"}, {"bleeded", "bleed"}, {"stringinging", "stringing"}, {"wantedinged", "wanteding"},
		// what is left of them
		{"stopped", "stop"}, {"running", "run"}, {"falling", "fall"}, {"missing", "miss"}, {"buzzing", "buzz"}, {"seeing", "see"}, {"aabeeing", "aabee"},
		{"rating", "rate"}, {"sizing", "size"}, {"ebling", "eble"}, {"bling", "bling"}, {"atting", "at"}, {"ebbling", "ebble"}, {"quizzing", "quizz"}, {"aizzed", "aizz"},
		{"bathing", "bath"}, {"bolting", "bolt"}, {"blasted", "blast"}, {"ablaing", "abla"}, {"taxing", "tax"}, {"addeding", "added"},
		// at, bl, iz and alike letters that no ending went behind
		{"that", "that"}, {"quiz", "quiz"}, {"abl", "abl"}, {"ebb", "ebb"}, {"ebbs", "ebb"}, {"adds", "add"},
		// ly, with 2 and 3 letters ahead
		{"fly", "fli"}, {"aaly", "aali"}, {"aaaly", "aaa"}, {"only", "onli"}, {"daily", "dai"}, {"quickly", "quick"}, {"happily", "happi"}, {"lylyly", "lyli"}, {"friendlies", "friend"}, {"applying", "app"},
		// y, with 2 letters ahead, behind a vowel and behind none
		{"sky", "ski"}, {"bby", "bbi"}, {"aby", "abi"}, {"bay", "bay"}, {"happy", "happi"}, {"say", "say"}, {"yyy", "yyy"}, {"byy", "byy"}, {"obeying", "obey"}, {"bys", "bys"},
	} {
		wantStem(t, c[0], c[1])
	}
}

func TestStemOfAlikeLetters(t *testing.T) {
	for letter := 'a'; letter <= 'z'; letter++ {
		double := "b" + "o" + string(letter) + string(letter)
		want := double[:3]
		if strings.ContainsRune("aeiouylsz", letter) {
			want = double
		}
		if letter == 'y' {
			want = "boyy"
		}
		wantStem(t, double+"ing", want)
		wantStem(t, double+"ed", want)
	}
}

func TestStemVowels(t *testing.T) {
	for letter := 'a'; letter <= 'z'; letter++ {
		ahead := "bc" + string(letter)
		vowel := strings.ContainsRune("aeiouy", letter)
		if vowel && letter != 'y' {
			wantStem(t, ahead+"ing", ahead)
			wantStem(t, ahead+"ed", ahead)
		} else if !vowel {
			wantStem(t, ahead+"ing", ahead+"ing")
			wantStem(t, ahead+"ed", ahead+"ed")
			wantStem(t, ahead+"y", ahead+"i")
		}
		if vowel {
			wantStem(t, ahead+"y", ahead+"y")
		}
	}
	wantStem(t, "bcying", "bci")
	wantStem(t, "bcyed", "bci")
}

func TestStemOfWhatIsNoWord(t *testing.T) {
	for _, word := range []string{
		"", "a", "s", "as", "is", "ed", "by", "ly", "Cats", "cAts", "catS", "RUNNING", "cat5s", "5ing", "it's", "cats ", " cats", "cat`s", "cat{s", "`ats", "{ats",
		"caf\u00e9s", "\u00e9s", "\u4e2d\u6587s", "cat\xffs", "\xffing", "runn\xc3ing", "cats\x00", "\x00\x00\x00", "\u0430bcing",
	} {
		wantStem(t, word, word)
	}
}

func TestStemOfLongWords(t *testing.T) {
	a := func(n int) string { return strings.Repeat("a", n) }
	wantStem(t, a(impl.MaxTerm), a(impl.MaxTerm))
	wantStem(t, a(impl.MaxTerm-3)+"ing", a(impl.MaxTerm-3))
	wantStem(t, a(impl.MaxTerm-5)+"bling", a(impl.MaxTerm-5)+"ble")
	wantStem(t, a(impl.MaxTerm-1)+"s", a(impl.MaxTerm-1))
	wantStem(t, a(impl.MaxTerm)+"s", a(impl.MaxTerm)+"s")
	wantStem(t, a(impl.MaxTerm-2)+"ing", a(impl.MaxTerm-2)+"ing")
	wantStem(t, a(impl.MaxText-1)+"s", a(impl.MaxText-1)+"s")
	wantStem(t, a(impl.MaxText)+"s", "")
	wantStem(t, strings.Repeat("\xff", impl.MaxText), strings.Repeat("\xff", impl.MaxText))
	wantStem(t, strings.Repeat("\xff", impl.MaxText+1), "")
}

// Every beginning of up to three letters with every two endings behind it.
func TestStemAgainstPatterns(t *testing.T) {
	beginnings := []string{""}
	for size, from := 1, 0; size <= 3; size++ {
		to := len(beginnings)
		for _, head := range beginnings[from:to] {
			for _, letter := range "aylstz" {
				beginnings = append(beginnings, head+string(letter))
			}
		}
		from = to
	}
	endings := []string{"", "s", "e", "es", "sses", "ies", "ss", "us", "is", "ing", "ed", "ly", "y", "at", "bl", "iz", "zz", "ll", "tt", "er", "i"}
	for _, head := range beginnings {
		for _, middle := range endings {
			for _, tail := range endings {
				word := head + middle + tail
				wantStem(t, word, stemOf(word))
			}
		}
	}
}

func TestStemOfAllShortWords(t *testing.T) {
	letters := "adegilnsyz"
	var grow func(word string, left int)
	grow = func(word string, left int) {
		wantStem(t, word, stemOf(word))
		if left == 0 {
			return
		}
		for _, letter := range letters {
			grow(word+string(letter), left-1)
		}
	}
	grow("", 5)
}
