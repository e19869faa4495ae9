// Package types reads types that are written sign by sign (DOC.md, Words).
package types

// Number is the type of numbers.
const Number = "i"

// Cells tells how many cells a value of this type has.
func Cells(signs string) int {
	count, at := 0, 0
	for at < len(signs) {
		if signs[at] == 'p' {
			at++
		} else {
			count++
			at = end(signs, at)
		}
	}
	return count
}

// Moved tells whether a value of this type is moved when it is used; else it is copied.
func Moved(signs string) bool {
	at := 0
	for at < len(signs) {
		switch signs[at] {
		case 'b', 'm':
			return true
		case 'p':
			at++
		default:
			at = end(signs, at)
		}
	}
	return false
}

// IsPair tells whether a type has parts.
func IsPair(signs string) bool {
	return len(signs) > 0 && signs[0] == 'p'
}

// First tells the type of a pair's part 0 ("": it is no pair).
func First(signs string) string {
	if !IsPair(signs) {
		return ""
	}
	return signs[1:end(signs, 1)]
}

// Second tells the type of a pair's part 1 ("": it is no pair).
func Second(signs string) string {
	if !IsPair(signs) {
		return ""
	}
	return signs[end(signs, 1):]
}

// IsShared tells whether a type is that of a shared reference.
func IsShared(signs string) bool {
	return len(signs) > 0 && signs[0] == 'r'
}

// Pointed tells the type of what a box or a reference points to ("": it is neither).
func Pointed(signs string) string {
	if len(signs) == 0 {
		return ""
	}
	switch signs[0] {
	case 'b', 'r', 'm':
		return signs[1:]
	}
	return ""
}

// end tells where the type that begins at a sign is over: a pair asks for one type more, a number ends one.
func end(signs string, at int) int {
	open := 1
	for at < len(signs) && open > 0 {
		switch signs[at] {
		case 'p':
			open++
		case 'i':
			open--
		}
		at++
	}
	return at
}
