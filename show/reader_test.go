package show_test

import (
	"math"
	"strconv"
	"strings"
	"testing"
	"unicode"
	"unicode/utf8"

	"pendulum/api"
	"pendulum/show"
	"pendulum/tree"
)

// reader reads a text back, byte by byte as the chapter describes it, and gives up where it has anything else.
type reader struct {
	rest string
}

type unexpected struct{ rest string }

// skip goes past a text, if it stands next.
func (r *reader) skip(text string) bool {
	rest, ok := strings.CutPrefix(r.rest, text)
	r.rest = rest
	return ok
}

// must goes past a text that has to stand next.
func (r *reader) must(text string) {
	if !r.skip(text) {
		panic(unexpected{r.rest})
	}
}

func (r *reader) while(good func(c rune) bool) string {
	n := 0
	for n < len(r.rest) {
		c, size := utf8.DecodeRuneInString(r.rest[n:])
		if !good(c) {
			break
		}
		n += size
	}
	if n == 0 {
		panic(unexpected{r.rest})
	}
	word := r.rest[:n]
	r.rest = r.rest[n:]
	return word
}

func (r *reader) name() string {
	return r.while(func(c rune) bool { return unicode.IsLetter(c) || unicode.IsDigit(c) || c == '_' })
}

// all reads one or more items with the separator between them.
func all[T any](r *reader, separator string, item func() T) []T {
	list := []T{item()}
	for r.skip(separator) {
		list = append(list, item())
	}
	return list
}

func (r *reader) node() api.Node {
	var n api.Node
	r.must("node ")
	n.Name = r.name()
	if r.must("("); !r.skip(") returns (") {
		n.In = all(r, "; ", r.decl)
		r.must(") returns (")
	}
	n.Out = all(r, "; ", r.decl)
	r.must(");\n")
	if r.skip("var ") {
		n.Local = all(r, "; ", r.decl)
		r.must(";\n")
	}
	r.must("let\n")
	for !r.skip("tel\n") {
		r.must("  ")
		n.Eqs = append(n.Eqs, r.equation())
		r.must(";\n")
	}
	r.mustEnd()
	return n
}

func (r *reader) mustEnd() {
	if r.rest != "" {
		panic(unexpected{r.rest})
	}
}

func (r *reader) decl() api.Decl {
	d := api.Decl{Name: r.name(), Type: api.TInt}
	if r.must(": "); !r.skip("int") {
		r.must("bool")
		d.Type = api.TBool
	}
	for r.skip(" when ") {
		off := r.skip("not ")
		d.Clocks = append(d.Clocks, api.Clock{Name: r.name(), On: !off})
	}
	return d
}

func (r *reader) equation() api.Equation {
	q := api.Equation{Left: all(r, ", ", r.name)}
	r.must(" = ")
	before := r.rest
	if c, _ := utf8.DecodeRuneInString(r.rest); unicode.IsLetter(c) {
		name := r.name()
		if r.skip("(") && name != "merge" {
			q.Node = name
			if !r.skip(")") {
				q.Args = all(r, ", ", r.expr)
				r.must(")")
			}
			if r.skip(" every ") {
				q.Every = r.name()
			}
			return q
		}
	}
	r.rest = before
	q.Expr = r.expr()
	return q
}

// infixes are the texts between two operands.
func infixes() map[string]int {
	return map[string]int{
		" + ": 6, " - ": 7, " * ": 8, " / ": 9, " mod ": 10, " and ": 11, " or ": 12, " xor ": 13,
		" = ": 14, " <> ": 15, " < ": 16, " <= ": 17, " > ": 18, " >= ": 19, " fby ": 21, " -> ": 22,
	}
}

func (r *reader) expr() api.Expr {
	switch {
	case r.skip("-"):
		return of(api.Neg, r.operand())
	case r.skip("not "):
		return of(api.Not, r.operand())
	case r.skip("pre "):
		return of(api.Pre, r.operand())
	case r.skip("if "):
		a := r.operand()
		r.must(" then ")
		b := r.operand()
		r.must(" else ")
		return of(api.If, a, b, r.operand())
	}
	inParentheses := strings.HasPrefix(r.rest, "(")
	a := r.operand()
	if r.skip(" when not ") {
		return whenNot(a, r.name())
	}
	if r.skip(" when ") {
		return when(a, r.name())
	}
	for text, op := range infixes() {
		if r.skip(text) {
			return of(op, a, r.operand())
		}
	}
	if inParentheses {
		panic(unexpected{"around a whole expression: " + r.rest})
	}
	return a
}

func (r *reader) operand() api.Expr {
	if !r.skip("(") {
		return r.simple()
	}
	e := r.expr()
	if r.must(")"); e.Op <= api.Var || e.Op == api.Merge {
		panic(unexpected{"behind a simple operand in parentheses: " + r.rest})
	}
	return e
}

func (r *reader) simple() api.Expr {
	if c, _ := utf8.DecodeRuneInString(r.rest); unicode.IsDigit(c) {
		digits := r.while(unicode.IsDigit)
		n, err := strconv.ParseInt(digits, 10, 64)
		if err != nil || strconv.FormatInt(n, 10) != digits {
			panic(unexpected{digits})
		}
		return number(n)
	}
	if r.skip("merge(") {
		name := r.name()
		r.must(", ")
		a := r.expr()
		r.must(", ")
		b := r.expr()
		r.must(")")
		return merge(name, a, b)
	}
	switch name := r.name(); name {
	case "true":
		return truth(1)
	case "false":
		return truth(0)
	default:
		return variable(name)
	}
}

// readBack is the node whose text that is, and "", or the rest that no text has there.
func readBack(text string) (n api.Node, rest string) {
	defer func() {
		switch p := recover().(type) {
		case nil:
		case unexpected:
			rest = p.rest
		default:
			panic(p)
		}
	}()
	r := reader{text}
	return r.node(), ""
}

// TestReader: the reader refuses texts that differ from one of a node in a byte.
func TestReader(t *testing.T) {
	if n, rest := readBack(sampleText); rest != "" || !equal(n, sample()) {
		t.Fatalf("the text of the sample is read as %v, rest %q", n, rest)
	}
	for i := range len(sampleText) {
		for _, with := range []string{"", " ", "\n", "(", ")", ";", sampleText[i:i+1] + " ", sampleText[i:i+1] + "\n", sampleText[i:i+1] + "("} {
			other := sampleText[:i] + with + sampleText[i+1:]
			if n, rest := readBack(other); rest == "" && equal(n, sample()) && other != sampleText {
				t.Errorf("%q is read as the sample", other)
			}
		}
	}
	for _, more := range []string{" ", "\n", "tel\n", "\x00"} {
		if _, rest := readBack(sampleText + more); rest == "" {
			t.Errorf("%q behind the text is read", more)
		}
	}
}

// checkReadBack checks that the text of a node is read back as that node, that Same holds with it, and that its pieces have the texts that they have alone.
func checkReadBack(t *testing.T, n api.Node) {
	t.Helper()
	text := show.Node(n)
	again, rest := readBack(text)
	if rest != "" {
		t.Fatalf("%q: unexpected: %q", text, rest)
	}
	if !equal(again, n) || !tree.Same(again, n) {
		t.Fatalf("%q is read back as %v, want %v", text, again, n)
	}
	for _, l := range [][]api.Decl{n.In, n.Out, n.Local} {
		for _, d := range l {
			piece := show.Decl(d)
			r := reader{piece}
			if r.decl(); r.rest != "" || !strings.Contains(text, piece) {
				t.Errorf("%q: Decl = %q", text, piece)
			}
		}
	}
	for _, q := range n.Eqs {
		if piece := show.Equation(q); !strings.Contains(text, "\n  "+piece+";\n") {
			t.Errorf("%q: Equation = %q", text, piece)
		}
		for _, e := range append([]api.Expr{q.Expr}, q.Args...) {
			if piece := show.Expr(e); !strings.Contains(text, piece) {
				t.Errorf("%q: Expr = %q", text, piece)
			}
		}
	}
}

func TestNodesByChance(t *testing.T) {
	valid := 0
	for seed := range int64(4000) {
		n := byChance(seed).node()
		if tree.Valid(n) == nil {
			checkReadBack(t, n)
			valid++
		}
	}
	if valid < 2000 {
		t.Errorf("only %d of the nodes are valid", valid)
	}
}

// TestTextsDiffer: two expressions have the same text only if they are the same.
func TestTextsDiffer(t *testing.T) {
	texts := map[string]api.Node{}
	add := func(e api.Expr) {
		n := around(by(e))
		text := show.Expr(e)
		if other, ok := texts[text]; ok && !tree.Same(n, other) {
			t.Errorf("%q is the text of %v and of %v", text, n, other)
		}
		texts[text] = n
	}
	for _, n := range []int64{0, 1, 2, math.MaxInt64} {
		add(number(n))
	}
	for _, outer := range forms() {
		for _, inner := range forms() {
			for _, third := range forms() {
				low, _ := third.part(-1, api.Expr{}, "")
				for i := range arity(inner.op) {
					middle, _ := inner.part(i, low, "")
					for j := range arity(outer.op) {
						e, _ := outer.part(j, middle, "")
						add(e)
					}
				}
			}
		}
	}
	if len(texts) < 10000 {
		t.Errorf("only %d expressions are compared", len(texts))
	}
}

func FuzzNode(f *testing.F) {
	f.Add([]byte(nil))
	f.Add([]byte("0123456789 a node of letters, and of others"))
	for seed := range int64(20) {
		b := make([]byte, 60)
		choose := byChance(seed)
		for i := range b {
			b[i] = byte(choose(256))
		}
		f.Add(b)
	}
	f.Fuzz(func(t *testing.T, b []byte) {
		n := byBytes(b).node()
		before := copyOf(n, 0)
		if tree.Valid(n) != nil {
			_ = show.Node(n)
			return
		}
		checkReadBack(t, n)
		if !equal(n, before) {
			t.Errorf("%v has changed", before)
		}
	})
}
