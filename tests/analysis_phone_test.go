package tests

import (
	"strings"
	"testing"

	"loop.example/g00018/impl"
)

func TestPhoneOfNames(t *testing.T) {
	for _, c := range [][2]string{
		{"Robert", "r163"}, {"Rupert", "r163"}, {"Ashcraft", "a261"}, {"Ashcroft", "a261"}, {"Tymczak", "t522"}, {"Pfister", "p236"}, {"Honeyman", "h555"},
		{"a", "a000"}, {"b", "b000"}, {"h", "h000"}, {"W", "w000"}, {"hw", "h000"}, {"whb", "w100"}, {"hhh", "h000"}, {"wb", "w100"},
		// alike letters: beside each other, with h or w between, with a vowel between
		{"bb", "b000"}, {"bp", "b000"}, {"bhp", "b000"}, {"bwp", "b000"}, {"bhwhp", "b000"}, {"bap", "b100"}, {"byp", "b100"}, {"bahp", "b100"}, {"bhap", "b100"},
		{"abb", "a100"}, {"abhb", "a100"}, {"abab", "a110"}, {"abcb", "a121"},
		// four characters, cut off and filled up
		{"ab", "a100"}, {"abc", "a120"}, {"abcd", "a123"}, {"abcdl", "a123"}, {"bcdl", "b234"}, {"lmnr", "l560"}, {"Lloyd", "l300"}, {"Euler", "e460"},
		// what is no letter is passed over; what is one with an accent counts
		{"12", ""}, {"", ""}, {"'_'", ""}, {"\u4e2d\u6587", ""}, {"\u00df", ""}, {"\u00e6", ""}, {"\u0416", ""}, {"\u212a", ""}, {"1b2b3", "b000"}, {"b'p", "b000"}, {"b\u4e2dp", "b000"},
		{"\u00c9", "e000"}, {"\u00d1o", "n000"}, {"\u00e7a", "c000"}, {"b\u00e9b", "b100"}, {"b\u00dfb", "b000"}, {"\u00c9clair", "e246"}, {"\u00ff", "y000"}, {"\u00fe", ""},
		{"`a{", "a000"}, {"@A[", "a000"}, {"\x00b", "b000"},
	} {
		wantPhone(t, c[0], c[1])
	}
}

func TestPhoneDigits(t *testing.T) {
	digits := map[string]string{"bfpv": "1", "cgjkqsxz": "2", "dt": "3", "l": "4", "mn": "5", "r": "6", "aeiouyhw": "0"}
	for letters, digit := range digits {
		for _, letter := range letters {
			wantPhone(t, "a"+string(letter), "a"+digit+"00")
			wantPhone(t, "a"+strings.ToUpper(string(letter)), "a"+digit+"00")
			wantPhone(t, string(letter), string(letter)+"000")
		}
	}
}

// Every two letters with something between them, as the first ones and further on.
func TestPhoneBetweenTwoLetters(t *testing.T) {
	between := []string{"", "h", "w", "hw", "wh", "a", "e", "i", "o", "u", "y", "ha", "aw", "hah", "1", "'", "\u00e9", "\u00df", "\u4e2d", "H", "W", "Y"}
	for first := 'a'; first <= 'z'; first++ {
		for second := 'a'; second <= 'z'; second++ {
			for _, middle := range between {
				word := string(first) + middle + string(second)
				wantPhone(t, word, soundOf(word))
				wantPhone(t, "a"+word, soundOf("a"+word))
				wantPhone(t, "kd"+word, soundOf("kd"+word))
			}
		}
	}
}

func TestPhoneOfAllShortWords(t *testing.T) {
	var grow func(word string, left int)
	grow = func(word string, left int) {
		wantPhone(t, word, soundOf(word))
		if left == 0 {
			return
		}
		for _, letter := range "aybpcdlmrhw" {
			grow(word+string(letter), left-1)
		}
	}
	grow("", 4)
}

func TestPhoneOfEveryCharacter(t *testing.T) {
	for r := range 1114112 {
		if r >= 55296 && r <= 57343 {
			continue
		}
		want := ""
		if small := r + answerOf(foldTable, r, 0); small >= 'a' && small <= 'z' {
			want = string(rune(small)) + "000"
		}
		if sound := impl.Phone(string(rune(r))); sound != want {
			t.Fatalf("Phone of character %d: %q, want %q", r, sound, want)
		}
	}
}

func TestPhoneOfWrongTexts(t *testing.T) {
	for _, word := range []string{"\xff", "Rob\xffert", "Robert\xc3", "\xc0\x80", "Robert\xed\xa0\x80", "\xf4\x90\x80\x80Robert"} {
		wantPhone(t, word, "")
	}
	wantPhone(t, "r"+strings.Repeat("a", impl.MaxText-1), "r000")
	wantPhone(t, "r"+strings.Repeat("a", impl.MaxText), "")
	wantPhone(t, strings.Repeat("a", impl.MaxText-1)+"b", "a100")
	wantPhone(t, strings.Repeat("1", impl.MaxText-1)+"b", "b000")
	wantPhone(t, strings.Repeat("\u00e9b", 20000), "e111")
	wantPhone(t, strings.Repeat("1", impl.MaxText), "")
	wantPhone(t, strings.Repeat("bcd", 30000), "")
}
