package lex

import (
	"slices"
)

// Words returns the keywords in their order.
func Words() []string {
	return []string{
		"and", "bool", "else", "every", "false", "fby", "if", "int", "let", "merge", "mod",
		"node", "not", "or", "pre", "returns", "tel", "then", "true", "var", "when", "xor",
	}
}

// Is reports whether word is a keyword.
func Is(word string) bool {
	return slices.Contains(Words(), word)
}

// longestSign is the number of runes of the longest signs.
const longestSign = 2

func isSign(s string) bool {
	switch s {
	case "(", ")", ",", ":", ";", "=", "<>", "<", "<=", ">", ">=", "+", "-", "*", "/", "->":
		return true
	}
	return false
}
