package impl

import (
	"strings"
	"unicode/utf8"
)

// The codes of all chapters.
const (
	OK         = 0
	ErrBad     = 1
	ErrLong    = 2
	ErrForm    = 3
	ErrSyntax  = 4
	ErrField   = 5
	ErrKind    = 6
	ErrExists  = 7
	ErrMissing = 8
	ErrVersion = 9
	ErrDeep    = 10
	ErrMany    = 11
	ErrRange   = 12
	ErrClosed  = 13
	ErrDown    = 14
	ErrCorrupt = 15
	ErrLine    = 16
	ErrOrder   = 17
	ErrWork    = 18
)

const (
	MaxText   = 65536
	MaxList   = 4096
	MaxTokens = 8192
)

// The classes of characters; their numbers are the document's, so their order is fixed.
const (
	ClassOther = iota
	ClassLetter
	ClassDigit
	ClassMark
	ClassWide
)

type Token struct {
	Text          string
	Pos, From, To int
}

// Decode tells the characters of a text.
func Decode(s string) ([]int, int) {
	if code := textCode(s); code != OK {
		return nil, code
	}
	list := make([]int, 0, utf8.RuneCountInString(s))
	for _, r := range s {
		list = append(list, int(r))
	}
	return list, OK
}

// Encode tells the text of a list of characters. A number that is no character
// is told ahead of a text that would be too long, so the text is measured whole
// before its length is judged.
func Encode(list []int) (string, int) {
	if len(list) > MaxText {
		return "", ErrLong
	}
	size := 0
	for _, r := range list {
		if !isCharacter(r) {
			return "", ErrBad
		}
		size += utf8.RuneLen(rune(r))
	}
	if size > MaxText {
		return "", ErrLong
	}
	var text strings.Builder
	text.Grow(size)
	for _, r := range list {
		text.WriteRune(rune(r))
	}
	return text.String(), OK
}

// Class tells the class of a character; a number that is none is ClassOther.
func Class(r int) int {
	switch {
	case r == 215 || r == 247: // the signs for times and divided by, amid letters
		return ClassOther
	case within(r, 65, 90), within(r, 97, 122), within(r, 192, 591), within(r, 880, 1279):
		return ClassLetter
	case within(r, 48, 57):
		return ClassDigit
	case r == 39 || r == 95:
		return ClassMark
	case within(r, 12352, 12543), within(r, 19968, 40959):
		return ClassWide
	}
	return ClassOther
}

// Fold tells the small letter without its accent; what is no such letter stays.
func Fold(r int) int {
	return withoutAccent(smallLetter(r))
}

// FoldText folds each character of a text.
func FoldText(s string) (string, int) {
	if code := textCode(s); code != OK {
		return "", code
	}
	var folded strings.Builder
	folded.Grow(len(s))
	for _, r := range s {
		folded.WriteRune(rune(Fold(int(r))))
	}
	return folded.String(), OK
}

// Break tells the words of a text and where they stand.
func Break(text string) ([]Token, int) {
	if code := textCode(text); code != OK {
		return nil, code
	}
	var list []Token
	end := 0
words:
	for from, r := range text {
		if from < end {
			continue words
		}
		switch Class(int(r)) {
		case ClassWide:
			end = from + utf8.RuneLen(r)
		case ClassLetter, ClassDigit:
			end = runEnd(text, from)
		default:
			continue words
		}
		if len(list) == MaxTokens {
			return nil, ErrMany
		}
		// A piece of the text would share the argument's memory.
		word := strings.Clone(text[from:end])
		list = append(list, Token{Text: word, Pos: len(list), From: from, To: end})
	}
	return list, OK
}

// runEnd tells the place behind the run that begins with the letter or digit at
// place from. The run ends behind its last letter or digit: a mark is in it only
// once a letter or digit has followed.
func runEnd(text string, from int) int {
	end := from
run:
	for step, r := range text[from:] {
		at := from + step
		switch Class(int(r)) {
		case ClassLetter, ClassDigit:
			end = at + utf8.RuneLen(r)
			continue run
		case ClassMark:
			if at == end {
				continue run
			}
		}
		break run
	}
	return end
}

// textCode tells what is wrong with a text that is an argument of its own.
func textCode(s string) int {
	if len(s) > MaxText {
		return ErrLong
	}
	if !utf8.ValidString(s) {
		return ErrForm
	}
	return OK
}

// isCharacter looks at the number as it is handed in: made a rune first, a
// great one would be cut to another.
func isCharacter(r int) bool {
	return within(r, 0, 1114111) && !within(r, 55296, 57343)
}

func smallLetter(r int) int {
	switch {
	case r == 215 || r == 930: // no letters: the sign for times, and a gap in the Greek ones
		return r
	case within(r, 65, 90), within(r, 192, 222), within(r, 913, 939), within(r, 1040, 1071):
		return r + 32
	case within(r, 1024, 1039):
		return r + 80
	}
	return r
}

func withoutAccent(r int) int {
	switch {
	case within(r, 224, 229):
		return 'a'
	case r == 231:
		return 'c'
	case within(r, 232, 235):
		return 'e'
	case within(r, 236, 239):
		return 'i'
	case r == 241:
		return 'n'
	case within(r, 242, 246), r == 248:
		return 'o'
	case within(r, 249, 252):
		return 'u'
	case r == 253, r == 255:
		return 'y'
	}
	return r
}

func within(r, lo, hi int) bool {
	return lo <= r && r <= hi
}
