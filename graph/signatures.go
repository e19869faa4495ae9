package graph

import (
	"borrowing/api"
	"borrowing/syntax"
	"borrowing/types"
	"borrowing/words"
)

// result is the name of the variable that holds a function's result.
const result = "ret"

// letters are the lifetimes' numbers as Life writes them.
const letters = "abcdefghijklmnopqrstuvwxyz"

// signatures makes all parameters and results, so that they stand ahead of all other variables, and functions are known everywhere.
func (b *builder) signatures(list []syntax.Function) {
	for i := 0; i < len(list) && !b.broken(); i++ {
		b.signature(list[i])
	}
}

func (b *builder) signature(f syntax.Function) {
	if b.findFunc(f.Name.Text) >= 0 {
		b.fail(api.RTwice, f.Name.At)
	}
	b.lives = nil
	first := len(b.locals)
	for i := 0; i < len(f.Params); i++ {
		p := f.Params[i]
		if b.declared(first, p.Name.Text) {
			b.fail(api.RTwice, p.Name.At)
		}
		b.signed(p.Name.Text, p.Type)
	}
	if b.declared(first, result) {
		b.fail(api.RTwice, f.Name.At)
	}
	b.signed(result, f.Result)
	if len(b.lives) > api.MaxLives {
		b.fail(api.RBig, f.Name.At)
	}
	b.funcs = append(b.funcs, api.Func{
		Name:  f.Name.Text,
		Param: first,
		N:     len(f.Params),
		Ret:   first + len(f.Params),
		Lives: len(b.lives),
	})
}

// findFunc tells the number of a function (-1: none has this name).
func (b *builder) findFunc(name string) int {
	for i := 0; i < len(b.funcs); i++ {
		if b.funcs[i].Name == name {
			return i
		}
	}
	return -1
}

// declared tells whether a variable from the number first on has this name.
func (b *builder) declared(first int, name string) bool {
	for i := first; i < len(b.locals); i++ {
		if b.locals[i].Name == name {
			return true
		}
	}
	return false
}

// signed makes a variable of a signature.
func (b *builder) signed(name string, kind syntax.Type) {
	b.fits(kind.Signs, kind.At)
	life := ""
	for i := 0; i < len(kind.Lives); i++ {
		n := b.lifetime(kind.Lives[i])
		life += letter(n)
	}
	b.locals = append(b.locals, api.Local{Name: name, Type: kind.Signs, Life: life})
}

// lifetime tells the number of a lifetime, and takes in one that is new, as one without a name always is.
func (b *builder) lifetime(name string) int {
	for i := 0; i < len(b.lives); i++ {
		if name != "" && b.lives[i] == name {
			return i
		}
	}
	b.lives = append(b.lives, name)
	return len(b.lives) - 1
}

// letter tells "" of a number that no function may have.
func letter(n int) string {
	if n < 0 || n >= len(letters) {
		return ""
	}
	return letters[n : n+1]
}

// fits judges a variable's type.
func (b *builder) fits(signs string, at words.Spot) {
	if types.Cells(signs) > api.MaxCells {
		b.fail(api.RBig, at)
	}
}
