package parse_test

import (
	"strings"
	"testing"

	"pendulum/api"
	"pendulum/parse"
	"pendulum/tree"
)

// pinned is a text in which each ^ stands ahead of the token that has the next one of the positions.
func pinned(s string) (text string, positions []int) {
	for i, piece := range strings.Split(s, "^") {
		if i > 0 {
			positions = append(positions, len([]rune(text)))
		}
		text += piece
	}
	return text, positions
}

// positionsOf are those of the parts of an expression in the order of the text: of an operator between two operands, and of a when, behind those of the first one.
func positionsOf(e api.Expr) []int {
	var list []int
	behind := e.Op >= api.Add && e.Op <= api.Ge || e.Op == api.Fby || e.Op == api.Arrow || e.Op == api.When
	if !behind {
		list = append(list, e.Pos)
	}
	for i, x := range e.L {
		list = append(list, positionsOf(x)...)
		if behind && i == 0 {
			list = append(list, e.Pos)
		}
	}
	return list
}

func checkPositions(t *testing.T, s string) {
	t.Helper()
	text, want := pinned(s)
	got := positionsOf(mustExpr(t, text))
	if !equal(got, want) {
		t.Errorf("the positions of %q are %v, want %v", text, got, want)
	}
	compareExpr(t, text)
	// In a node they count from its beginning.
	n := mustNode(t, "-- λ\n"+equation("x = "+text+"\n; x = g("+text+"\n, ("+text+"\n))"))
	for i, e := range []api.Expr{n.Eqs[0].Expr, n.Eqs[1].Args[0], n.Eqs[1].Args[1]} {
		ahead := e.Pos - mustExpr(t, text).Pos
		var moved []int
		for _, pos := range want {
			moved = append(moved, pos+ahead)
		}
		if got := positionsOf(e); !equal(got, moved) || ahead < 32 {
			t.Errorf("%d: the positions of %q in a node are %v, want %v", i, text, got, moved)
		}
	}
}

func TestPositionsOfParts(t *testing.T) {
	for _, s := range []string{
		"^1", "^true", "^false", "^a", " \n\t^λ", "-- λ€\n ^1", "(^1)", "( (\n^λ ) )",
		"^- ^a", "^not\n^a", "^pre ^a", " ^-^1", "(^-(^a))", "^- ^- -- λ\n^a", "^not ^pre ^- ^a",
		"^a ^when c", "^a ^when not c", "^λ -- c\n\t^when\nnot\nc ^when d", "(^a) ^when c", "( ^a ^when c ) ^when not d",
		"^merge(c, ^a, ^b)", " ^merge\n(\nλ, -- λ\n^a,\n^b)", "(^merge(c, (^a), ^merge(d, ^1, (^2))))", "^merge(c, ^a, ^b) ^when d",
		"^if ^a then ^b else ^c", "( ^if\n ^a\nthen ^b\nelse ^c )", "^if (^a) then (^b) else (^c)", "^if ^if ^a then ^b else ^c then ^d else ^if ^e then ^f else ^g", "^a ^-> ^if ^b then ^c else ^d",
		"^a ^+ ^b ^* ^c", "(^a ^+ ^b) ^* ^c", "((^a) ^+ (^b))", "^a ^- ^- ^b", "^λ\n^+\n^λ -- λ\n ^- ^λ", "^a ^-> ^b ^-> ^c", "^a ^fby ^b ^fby ^c", "(^a ^-> ^b) ^fby ^c",
		"^a ^<= ^b ^and ^not ^c ^<> ^d ^or ^e", "^pre (^a ^+ ^1) ^-> ^pre ^a",
	} {
		checkPositions(t, s)
	}
	for _, x := range infixes() {
		checkPositions(t, "^a ^"+x.text+" ^b")
		checkPositions(t, "\n(^λ\n)\n^"+x.text+" -- λ\n(^b ^"+x.text+" ^c)")
	}
}

// TestPositionsOfVariablesAndEquations: of each name of a group its own, of an equation that of its first name.
func TestPositionsOfVariablesAndEquations(t *testing.T) {
	text, want := pinned(`-- λ€
	node f(^a, ^λ: int; ^c: bool
	; ^b,
	^d: int) returns (^x
	: int; ^y, ^y1: bool);
var ^z, ^w: int when c when not λ; ^u: bool when c; -- λ: int
^v: int;
let
  ^x, y = g(a + 1, λ) every c; ^z = 1; ^y1, x = h();
	^u
	= c; -- λ = 1;
tel
`)
	n := mustNode(t, text)
	var got []int
	for _, d := range tree.Vars(n) {
		got = append(got, d.Pos)
	}
	for _, q := range n.Eqs {
		got = append(got, q.Pos)
	}
	if !equal(got, want) {
		t.Errorf("the positions are %v, want %v", got, want)
	}
	compareNode(t, text)
}

// TestPositionsOfErrors: over several lines, with comments, and with runes of several bytes.
func TestPositionsOfErrors(t *testing.T) {
	for s, want := range map[string]error{
		"λ\n+\n-- €λ\n^)":           api.ErrWord,
		"λ -- λ\n^λ":                api.ErrWord,
		"λ + -- €\n^":               api.ErrEnd,
		"λ when not -- λ\n\t^":      api.ErrEnd,
		"-- λ\n^":                   api.ErrEnd,
		"-- λ^":                     api.ErrEnd,
		"λ fby\n\nλ + ^if λ then λ": api.ErrWord,
		"λ < λ\n^< λ":               api.ErrWord,
		"λ + -- λ\n ^01":            api.ErrNumber,
		"λ + -- λ\n ^€":             api.ErrRune,
		"λ ) ^" + strings.Repeat("λ", api.MaxName):               api.ErrMany,
		strings.Repeat("(\nλ ->", api.MaxNest) + "λ -- λ\n^-> λ": api.ErrDeep,
	} {
		text, positions := pinned(s)
		refuseExpr(t, text, at(want, positions[0]))
	}
}

// TestPositionsOfErrorsOfTheTree: what Valid finds has a position in the text.
func TestPositionsOfErrorsOfTheTree(t *testing.T) {
	for _, s := range []string{
		"-- λ\nnode λ(λ: int;\n ^a, b: bool when λ) returns (x: int);\nlet x = 1; tel",
		"-- λ\nnode λ(λ: int)\nreturns (x: int; ^y, z: bool when not λ);\nlet x = 1; tel",
		"-- λ\nnode λ(λ: int) returns (x: int);\nvar a: int; -- €\n^b, c: int when λ when λ when not λ when λ when λ; d: int; let x = 1; tel",
	} {
		text, positions := pinned(s)
		if _, err := parse.Node(text); !sameError(err, at(api.ErrShape, positions[0])) {
			t.Errorf("Node(%q): %v, want the position %d", text, err, positions[0])
		}
		compareNode(t, text)
	}
}
