package lex_test

import (
	"slices"
	"strings"
	"testing"

	"pendulum/lex"
	"pendulum/text"
)

// keywords are written out once more, as the chapter has them.
func keywords() []string {
	return strings.Fields("and bool else every false fby if int let merge mod node not or pre returns tel then true var when xor")
}

func TestWordsInTheirOrder(t *testing.T) {
	if got := lex.Words(); !slices.Equal(got, keywords()) || len(got) != 22 || !slices.IsSorted(got) {
		t.Errorf("Words() = %q", got)
	}
}

func TestIs(t *testing.T) {
	for _, k := range keywords() {
		if !lex.Is(k) {
			t.Errorf("Is(%q) = false", k)
		}
	}
	for _, s := range []string{"", " ", "a", "λ", "1", "_", "-", "->", "End", "iff", "nodes", "return", "and bool", "andbool", "and,", "\xff", "\x00", strings.Repeat("and", 1<<16)} {
		if lex.Is(s) {
			t.Errorf("Is(%.40q) = true", s)
		}
	}
}

// nextTo are the strings that are a keyword with a piece more, less or other.
func nextTo(k string) []string {
	list := []string{strings.ToUpper(k), strings.ToUpper(k[:1]) + k[1:], " " + k, k + " ", k + "\n", k + "\x00", "\x00" + k, k + "\xff", k + k}
	for i := range len(k) + 1 {
		for _, piece := range []string{"a", "e", "f", "n", "s", "t", "z", "0", "9", "_", "λ", "ω"} {
			list = append(list, k[:i]+piece+k[i:])
			if i < len(k) {
				list = append(list, k[:i]+piece+k[i+1:])
			}
		}
		if i < len(k) {
			list = append(list, k[:i]+k[i+1:], k[:i])
		}
	}
	return list
}

func TestIsOfStringsNextToKeywords(t *testing.T) {
	for _, k := range keywords() {
		for _, s := range nextTo(k) {
			if got, is := lex.Is(s), slices.Contains(keywords(), s); got != is {
				t.Errorf("Is(%q) = %v", s, got)
			}
		}
	}
}

// Package text has a list of its own, since it is below this one.
func TestKeywordsAreThoseThatAreNoNames(t *testing.T) {
	for _, k := range lex.Words() {
		if text.Name(k) || !text.Name(k+"_") {
			t.Errorf("Name(%q) = %v", k, text.Name(k))
		}
		for _, s := range nextTo(k) {
			sameKind(t, s)
		}
	}
	// Of all short strings of letters, those that are no names are keywords.
	letters := strings.Split("abcdefghijklmnopqrstuvwxyzλ", "")
	grow("", 3, letters, func(s string) { sameKind(t, s) })
	for _, k := range lex.Words() {
		for i := 1; i < len(k); i++ {
			grow(k[:i], 2, letters, func(s string) { sameKind(t, s) })
		}
	}
}

// sameKind holds the first token of s against what package text tells of s, if s is all of that token.
func sameKind(t *testing.T, s string) {
	t.Helper()
	for token := range lex.Tokens(s) {
		if token.Text == s && s != "" {
			if (token.Kind == lex.Name) != text.Name(s) || (token.Kind == lex.Word) != lex.Is(s) {
				t.Errorf("%q: kind %d, Name %v, Is %v", s, token.Kind, text.Name(s), lex.Is(s))
			}
		}
		break
	}
}

func TestWordsAreNew(t *testing.T) {
	first, second := lex.Words(), lex.Words()
	for i := range first {
		first[i] = "a"
	}
	clear(first[:cap(first)])
	_ = append(first[:3], "x", "y")
	if !slices.Equal(second, keywords()) || !slices.Equal(lex.Words(), keywords()) {
		t.Error("writing to the words changes others")
	}
	if lex.Is("a") || lex.Is("x") || !lex.Is("and") || !lex.Is("every") {
		t.Error("writing to the words changes Is")
	}
	if list, err := lex.All("and x"); err != nil || list[0].Kind != lex.Word || list[1].Kind != lex.Name {
		t.Error("writing to the words changes tokens", list, err)
	}
}
