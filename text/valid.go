package text

import (
	"strings"

	"pendulum/api"
)

// wrong is the rune that stands for a byte that is not part of a valid encoding.
const wrong = 0xfffd

// wrongEncoded is the valid encoding of that rune: only its bytes tell it from a wrong byte.
const wrongEncoded = "\ufffd"

// Valid returns an error if s has too many bytes, or a rune that no text has.
func Valid(s string) error {
	if len(s) > api.MaxText {
		return api.ErrMany
	}
	pos := 0
	for i, r := range s {
		if control(r) || r == wrong && !strings.HasPrefix(s[i:], wrongEncoded) {
			return &api.At{Pos: pos, Err: api.ErrRune}
		}
		pos++
	}
	return nil
}

func control(r rune) bool {
	return r < 32 && r != '\t' && r != '\n' || r == 127
}

// Letter reports whether r is a to z, or α to ω.
func Letter(r rune) bool {
	return r >= 'a' && r <= 'z' || r >= 'α' && r <= 'ω'
}

// Digit reports whether r is 0 to 9.
func Digit(r rune) bool {
	return r >= '0' && r <= '9'
}

// Blank reports whether r is a space, a tab or a line feed.
func Blank(r rune) bool {
	return r == ' ' || r == '\t' || r == '\n'
}

// Name reports whether s is a valid name.
func Name(s string) bool {
	if s == "" || len(s) > api.MaxName || keyword(s) {
		return false
	}
	for i, r := range s {
		if !Letter(r) && (i == 0 || !Digit(r) && r != '_') {
			return false
		}
	}
	return true
}

// keyword has the keywords here, since the lexer is a layer above.
func keyword(s string) bool {
	switch s {
	case "and", "bool", "else", "every", "false", "fby", "if", "int", "let", "merge", "mod",
		"node", "not", "or", "pre", "returns", "tel", "then", "true", "var", "when", "xor":
		return true
	}
	return false
}
