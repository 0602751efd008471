package lex

import (
	"strconv"

	"pendulum/api"
	"pendulum/text"
)

// source has the runes of a valid text, so that a position is an index, and the runes turn back into the same bytes.
type source []rune

// none stands for the rune behind the last one: it is in no valid text.
const none = 0

func (s source) at(pos int) rune {
	if pos >= len(s) {
		return none
	}
	return s[pos]
}

// read returns the first token that begins at pos or behind it, and the position behind that token.
func (s source) read(pos int) (Token, int, error) {
	pos = s.skip(pos)
	r := s.at(pos)
	switch {
	case r == none:
		return Token{Kind: End, Pos: pos}, pos, nil
	case text.Letter(r):
		return s.name(pos)
	case text.Digit(r):
		return s.number(pos)
	}
	return s.sign(pos)
}

// skip returns the position behind the blanks and comments that begin at pos.
func (s source) skip(pos int) int {
	for {
		switch {
		case text.Blank(s.at(pos)):
			pos++
		case s.at(pos) == '-' && s.at(pos+1) == '-':
			pos = s.behind(pos, inLine)
		default:
			return pos
		}
	}
}

// behind returns the position of the first rune from pos on that does not fit.
func (s source) behind(pos int, fits func(rune) bool) int {
	for pos < len(s) && fits(s[pos]) {
		pos++
	}
	return pos
}

func inLine(r rune) bool {
	return r != '\n'
}

func inName(r rune) bool {
	return text.Letter(r) || text.Digit(r) || r == '_'
}

func (s source) name(pos int) (Token, int, error) {
	end := s.behind(pos, inName)
	word := string(s[pos:end])
	if len(word) > api.MaxName {
		return fail(pos, api.ErrMany)
	}
	kind := Name
	if Is(word) {
		kind = Word
	}
	return Token{Kind: kind, Pos: pos, Text: word}, end, nil
}

func (s source) number(pos int) (Token, int, error) {
	end := s.behind(pos, text.Digit)
	digits := string(s[pos:end])
	n, err := strconv.ParseInt(digits, 10, 64)
	if err != nil || len(digits) > 1 && digits[0] == '0' || inName(s.at(end)) {
		return fail(pos, api.ErrNumber)
	}
	return Token{Kind: Number, Pos: pos, Text: digits, N: n}, end, nil
}

func (s source) sign(pos int) (Token, int, error) {
	for end := min(pos+longestSign, len(s)); end > pos; end-- {
		if sign := string(s[pos:end]); isSign(sign) {
			return Token{Kind: Sign, Pos: pos, Text: sign}, end, nil
		}
	}
	return fail(pos, api.ErrRune)
}

func fail(pos int, err error) (Token, int, error) {
	return Token{}, 0, &api.At{Pos: pos, Err: err}
}
