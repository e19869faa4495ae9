// Package types reads types that are written sign by sign (DOC.md, Words).
package types

// Number is the type of numbers.
const Number = "i"

// Cells tells how many cells a value of this type has.
func Cells(signs string) int {
	count, at := 0, 0
	for at < len(signs) {
		if signs[at] == 'p' {
			at++
		} else {
			count++
			at = end(signs, at)
		}
	}
	return count
}

// Moved tells whether a value of this type is moved when it is used; else it is copied.
func Moved(signs string) bool {
	at := 0
	for at < len(signs) {
		switch signs[at] {
		case 'b', 'm':
			return true
		case 'p':
			at++
		default:
			at = end(signs, at)
		}
	}
	return false
}

// IsPair tells whether a type has parts.
func IsPair(signs string) bool {
	return len(signs) > 0 && signs[0] == 'p'
}

// First tells the type of a pair's part 0 ("": it is no pair).
func First(signs string) string {
	if !IsPair(signs) {
		return ""
	}
	return signs[1:end(signs, 1)]
}

// Second tells the type of a pair's part 1 ("": it is no pair).
func Second(signs string) string {
	if !IsPair(signs) {
		return ""
	}
	return signs[end(signs, 1):]
}

// IsShared tells whether a type is that of a shared reference.
func IsShared(signs string) bool {
	return len(signs) > 0 && signs[0] == 'r'
}

// Pointed tells the type of what a box or a reference points to ("": it is neither).
func Pointed(signs string) string {
	if len(signs) == 0 {
		return ""
	}
	switch signs[0] {
	case 'b', 'r', 'm':
		return signs[1:]
	}
	return ""
}

// Step tells the type of what a step of a place leads to ("": there is nothing).
func Step(signs string, step byte) string {
	switch step {
	case '0':
		return First(signs)
	case '1':
		return Second(signs)
	case '*':
		return Pointed(signs)
	}
	return ""
}

// IsReference tells whether a type is that of a reference.
func IsReference(signs string) bool {
	return len(signs) > 0 && (signs[0] == 'r' || signs[0] == 'm')
}

// References tells how many references are in a type.
func References(signs string) int {
	count := 0
	for at := 0; at < len(signs); at++ {
		if IsReference(signs[at:]) {
			count++
		}
	}
	return count
}

// BelowMut tells of each reference in a type, in their order, whether it is below an m.
func BelowMut(signs string) []bool {
	below := make([]bool, 0, References(signs))
	behind := 0
	for at := 0; at < len(signs); at++ {
		if !IsReference(signs[at:]) {
			continue
		}
		below = append(below, at < behind)
		if signs[at] == 'm' && at >= behind {
			behind = end(signs, at)
		}
	}
	return below
}

// end tells where the type that begins at a sign is over: a pair asks for one type more, a number ends one.
func end(signs string, at int) int {
	open := 1
	for at < len(signs) && open > 0 {
		switch signs[at] {
		case 'p':
			open++
		case 'i':
			open--
		}
		at++
	}
	return at
}
