// Package syntax reads a text as a program of the grammar (P4).
package syntax

import "borrowing/words"

// Program is a whole text.
type Program struct {
	Functions []Function
	Body      Block
	End       words.Spot // the text's end
}

// Function is a function with its signature.
type Function struct {
	At     words.Spot // the word fn
	Name   words.Word
	Params []Param
	Result Type
	Body   Block
}

// Param is a parameter.
type Param struct {
	Name words.Word
	Type Type
}

// Type is a type, sign by sign. Lives has a text for each of its references, in their order: the lifetime's name, or "".
type Type struct {
	At    words.Spot // its first word
	Signs string
	Lives []string
}

// Block is a block; End is its closing brace.
type Block struct {
	List []Statement
	End  words.Spot
}

// The kinds of statements.
const (
	Let    = 1 // Name, Type
	Assign = 2 // Place, Value
	Drop   = 3 // Place
	Out    = 4 // Place
	If     = 5 // Test, Body, Other (empty, if there is no else)
	While  = 6 // Test, Body
	Inner  = 7 // Body
)

// Statement is a statement; what does not apply to its kind is zero.
type Statement struct {
	Kind  int
	At    words.Spot // its first word
	Name  words.Word
	Type  Type
	Place Place
	Value Value
	Test  Operand
	Body  Block
	Other Block
}

// Value is a value; its kinds are those of package api, and so are its operands' (api.None: there is none). Of a call Callee is the function's name, "" if no plain name stands there.
type Value struct {
	Kind   int
	At     words.Spot // its first word
	Callee string
	A, B   Operand
}

// Operand is an operand.
type Operand struct {
	Kind  int
	At    words.Spot // its first word
	N     int
	Place Place
}

// Place is a variable and the steps from it in the order in which they are gone: of *x.0 first the field, then the star.
type Place struct {
	At    words.Spot // its first word
	Name  words.Word
	Steps []Step
}

// Step is a step; Text is "*" or a field's number as it is written.
type Step struct {
	Text string
	At   words.Spot // the star or the point
}
