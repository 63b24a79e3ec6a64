// Package prefix has words of bits for symbols: it writes symbols as their words, one behind the other, and reads them back.
package prefix

import (
	"slices"

	"quipu/api"
)

// Check tells ErrLarge of a code that has more than MaxWords words, or a word of more than MaxLen bits.
func Check(code [][]bool) api.Errno {
	tooLong := func(word []bool) bool { return len(word) > api.MaxLen }
	if len(code) > api.MaxWords || slices.ContainsFunc(code, tooLong) {
		return api.ErrLarge
	}
	return api.OK
}

// Prefix tells whether no word of the code is the beginning of another one, or the same.
func Prefix(code [][]bool) (bool, api.Errno) {
	if err := Check(code); err != api.OK {
		return false, err
	}
	for i, word := range code {
		clashes := func(other []bool) bool { return Begins(word, other) || Begins(other, word) }
		if slices.ContainsFunc(code[i+1:], clashes) {
			return false, api.OK
		}
	}
	return true, api.OK
}

// Write answers the words of the symbols, one behind the other.
func Write(code [][]bool, symbols []int) ([]bool, api.Errno) {
	if err := Check(code); err != api.OK {
		return nil, err
	}
	if len(symbols) > api.MaxText {
		return nil, api.ErrLarge
	}
	wordless := func(symbol int) bool { return symbol < 0 || symbol >= len(code) }
	if slices.ContainsFunc(symbols, wordless) {
		return nil, api.ErrArg
	}
	var bits []bool
	for _, symbol := range symbols {
		bits = append(bits, code[symbol]...)
	}
	return bits, api.OK
}

// Read answers the symbols that Write makes the bits of.
func Read(code [][]bool, bits []bool) ([]int, api.Errno) {
	if err := checkReadable(code); err != api.OK {
		return nil, err
	}
	var symbols []int
	rest := bits
	startsRest := func(word []bool) bool { return Begins(word, rest) }
	for len(rest) > 0 {
		// No word begins another one, so at most one word starts the rest: there is no choice to take back later.
		symbol := slices.IndexFunc(code, startsRest)
		// Write refuses more than MaxText symbols, so it makes no bits of a longer list.
		if symbol < 0 || len(symbols) == api.MaxText {
			return nil, api.ErrNone
		}
		symbols = append(symbols, symbol)
		rest = rest[len(code[symbol]):]
	}
	return symbols, api.OK
}

// checkReadable tells what keeps a code from being read without a doubt.
func checkReadable(code [][]bool) api.Errno {
	free, err := Prefix(code)
	if err != api.OK {
		return err
	}
	// A code whose one word is empty passes Prefix, but any number of its symbols makes the same bits.
	empty := func(word []bool) bool { return len(word) == 0 }
	if !free || slices.ContainsFunc(code, empty) {
		return api.ErrForm
	}
	return api.OK
}

// Begins tells whether the list begins with the word, or is it.
func Begins(word, list []bool) bool {
	return len(word) <= len(list) && slices.Equal(word, list[:len(word)])
}
