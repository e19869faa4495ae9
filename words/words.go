// Package words parts a text into its words (P3).
package words

import "borrowing/api"

// The kinds of words.
const (
	Bad    = 0 // a word that no program has
	Fixed  = 1 // a keyword or a sign
	Name   = 2
	Number = 3
	Life   = 4 // a lifetime
	End    = 5 // the text's end
)

const maxLife = 8 // bytes of a lifetime, its apostrophe among them

// Spot is a place in the text: both from 1 on, a byte a column.
type Spot struct {
	Line, Col int
}

// Word is a word and the place where it begins.
type Word struct {
	Kind int
	Text string
	At   Spot
}

// Split tells all words of a text; the last one is its end.
func Split(text string) []Word {
	var list []Word
	line, start, at := 1, 0, 0
	for at < len(text) {
		switch text[at] {
		case '\n':
			at++
			line++
			start = at
		case ' ', '\t':
			at++
		case '#':
			at = lineEnd(text, at)
		default:
			end := wordEnd(text, at)
			word := text[at:end]
			list = append(list, Word{kindOf(word), word, Spot{line, at - start + 1}})
			at = end
		}
	}
	return append(list, Word{End, "", Spot{line, len(text) - start + 1}})
}

// lineEnd stops ahead of the byte 10, so that it is Split alone that counts lines.
func lineEnd(text string, at int) int {
	for at < len(text) && text[at] != '\n' {
		at++
	}
	return at
}

// wordEnd goes as far as the word can: how long it may be is asked later, for a word too long is one word, too.
func wordEnd(text string, at int) int {
	if at >= len(text) {
		return len(text)
	}
	first := text[at]
	end := at + 1
	if isDigit(first) {
		for end < len(text) && isDigit(text[end]) {
			end++
		}
	}
	if isLetter(first) || first == '\'' {
		for end < len(text) && (isLetter(text[end]) || isDigit(text[end])) {
			end++
		}
	}
	return end
}

func kindOf(word string) int {
	if len(word) == 0 {
		return Bad
	}
	first := word[0]
	switch {
	case isKeyword(word) || isSign(word):
		return Fixed
	case isLetter(first) && len(word) <= api.MaxName:
		return Name
	case isDigit(first) && len(word) <= api.MaxDigits:
		return Number
	case first == '\'' && len(word) > 1 && len(word) <= maxLife:
		return Life
	}
	return Bad
}

func isLetter(c byte) bool {
	return c >= 'a' && c <= 'z' || c >= 'A' && c <= 'Z'
}

func isDigit(c byte) bool {
	return c >= '0' && c <= '9'
}

func isKeyword(word string) bool {
	switch word {
	case "let", "drop", "out", "if", "else", "while", "box", "mut", "int", "fn":
		return true
	}
	return false
}

func isSign(word string) bool {
	switch word {
	case "&", "*", "(", ")", "[", "]", "{", "}", ";", ":", "=", "+", ",", ".", "?":
		return true
	}
	return false
}
