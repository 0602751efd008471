package parse_test

import (
	"pendulum/api"
	"pendulum/lex"
	"pendulum/tree"
)

// The model is a parser without recursion. It is given one token after the other; for an expression it keeps a stack of what is not yet complete, for all else the name of the place where it is.

// frame is something in an expression that is not yet complete.
type frame struct {
	kind  string   // "(", "merge", "if", "prefix" or "infix"
	part  api.Expr // with the operands that are complete
	level int      // of an operator
}

// opens reports whether the frame is one of those that the limit is for.
func (f frame) opens() bool {
	return f.kind != "infix" || f.part.Op == api.Arrow || f.part.Op == api.Fby
}

const (
	arrowLevel      = 1
	fbyLevel        = 2
	comparisonLevel = 5
	prefixLevel     = 8
)

// infix is the Op of an operator between two operands, and its level, from the weakest to the strongest.
func infix(text string) (op, level int) {
	switch text {
	case "->":
		return 22, arrowLevel
	case "fby":
		return 21, fbyLevel
	case "or":
		return 12, 3
	case "xor":
		return 13, 3
	case "and":
		return 11, 4
	case "=":
		return 14, comparisonLevel
	case "<>":
		return 15, comparisonLevel
	case "<":
		return 16, comparisonLevel
	case "<=":
		return 17, comparisonLevel
	case ">":
		return 18, comparisonLevel
	case ">=":
		return 19, comparisonLevel
	case "+":
		return 6, 6
	case "-":
		return 7, 6
	case "*":
		return 8, 7
	case "/":
		return 9, 7
	case "mod":
		return 10, 7
	}
	return 0, 0
}

// wrong is the error of a token that is not allowed at its place.
func wrong(t lex.Token) error {
	if t.Kind == lex.End {
		return at(api.ErrEnd, t.Pos)
	}
	return at(api.ErrWord, t.Pos)
}

// exprModel reads an expression. Its place is "operand" where an operand has to stand, "behind" where one has stood, or one within a merge or a when.
type exprModel struct {
	frames []frame
	place  string
	value  api.Expr
}

func (m *exprModel) top() frame {
	if len(m.frames) == 0 {
		return frame{}
	}
	return m.frames[len(m.frames)-1]
}

func (m *exprModel) pop() { m.frames = m.frames[:len(m.frames)-1] }

func (m *exprModel) push(t lex.Token, f frame) error {
	open := 0
	for _, other := range m.frames {
		if other.opens() {
			open++
		}
	}
	if f.opens() && open == 48 {
		return at(api.ErrDeep, t.Pos)
	}
	f.part.Pos = t.Pos
	m.frames = append(m.frames, f)
	return nil
}

// complete makes the value the last operand of the frame at the top, and that part the value.
func (m *exprModel) complete() {
	part := m.top().part
	part.L = append(part.L, m.value)
	m.value = part
	m.pop()
}

// further makes the value an operand of the frame at the top, ahead of another one.
func (m *exprModel) further() {
	f := &m.frames[len(m.frames)-1]
	f.part.L = append(f.part.L, m.value)
	m.place = "operand"
}

// step takes a token, or answers false if the expression ends ahead of it.
func (m *exprModel) step(t lex.Token) (bool, error) {
	switch m.place {
	case "operand":
		return true, m.operand(t)
	case "behind":
		return m.behind(t)
	case "merge":
		return true, m.goTo(t, t.Text == "(", "merge (")
	case "merge (":
		m.frames[len(m.frames)-1].part.Name = t.Text
		return true, m.goTo(t, t.Kind == lex.Name, "merge ( NAME")
	case "merge ( NAME":
		return true, m.goTo(t, t.Text == ",", "operand")
	case "when":
		if t.Text == "not" {
			return true, m.goTo(t, true, "when not")
		}
		m.value.N = 1
	}
	m.value.Name = t.Text
	return true, m.goTo(t, t.Kind == lex.Name, "behind")
}

// goTo goes to a place if the token is allowed.
func (m *exprModel) goTo(t lex.Token, allowed bool, place string) error {
	if !allowed {
		return wrong(t)
	}
	m.place = place
	return nil
}

func (m *exprModel) operand(t lex.Token) error {
	top := m.top()
	switch {
	case t.Kind == lex.Number:
		m.value = api.Expr{Op: 1, Pos: t.Pos, N: t.N}
	case t.Kind == lex.Name:
		m.value = api.Expr{Op: 3, Pos: t.Pos, Name: t.Text}
	case t.Text == "true":
		m.value = api.Expr{Op: 2, Pos: t.Pos, N: 1}
	case t.Text == "false":
		m.value = api.Expr{Op: 2, Pos: t.Pos, N: 0}
	case t.Text == "(":
		return m.push(t, frame{kind: "("})
	case t.Text == "merge":
		m.place = "merge"
		return m.push(t, frame{kind: "merge", part: api.Expr{Op: 25}})
	case t.Text == "-":
		return m.push(t, frame{"prefix", api.Expr{Op: 4}, prefixLevel})
	case t.Text == "not":
		return m.push(t, frame{"prefix", api.Expr{Op: 5}, prefixLevel})
	case t.Text == "pre":
		return m.push(t, frame{"prefix", api.Expr{Op: 23}, prefixLevel})
	case t.Text == "if" && top.level <= fbyLevel:
		return m.push(t, frame{kind: "if", part: api.Expr{Op: 20}})
	default:
		return wrong(t)
	}
	m.place = "behind"
	return nil
}

func (m *exprModel) behind(t lex.Token) (bool, error) {
	if t.Text == "when" {
		m.value = api.Expr{Op: 24, Pos: t.Pos, L: []api.Expr{m.value}}
		m.place = "when"
		return true, nil
	}
	if op, level := infix(t.Text); op != 0 {
		right := level <= fbyLevel
		for m.top().level > level || m.top().level == level && !right && level != comparisonLevel {
			m.complete()
		}
		if level == comparisonLevel && m.top().level == level {
			return true, wrong(t)
		}
		m.place = "operand"
		return true, m.push(t, frame{"infix", api.Expr{Op: op, L: []api.Expr{m.value}}, level})
	}
	for m.top().level > 0 || m.top().kind == "if" && len(m.top().part.L) == 2 {
		m.complete()
	}
	return m.close(t)
}

// close takes a token that ends all operators ahead of it.
func (m *exprModel) close(t lex.Token) (bool, error) {
	top := m.top()
	have := len(top.part.L)
	switch {
	case top.kind == "":
		return false, nil
	case top.kind == "(" && t.Text == ")":
		m.pop()
	case top.kind == "merge" && have == 0 && t.Text == ",", top.kind == "if" && have == 0 && t.Text == "then", top.kind == "if" && have == 1 && t.Text == "else":
		m.further()
	case top.kind == "merge" && have == 1 && t.Text == ")":
		m.complete()
	default:
		return true, wrong(t)
	}
	return true, nil
}

func modelOfExpr(s string) (api.Expr, error) {
	tokens, err := lex.All(s)
	if err != nil {
		return api.Expr{}, err
	}
	m := exprModel{place: "operand"}
	for _, t := range tokens {
		taken, err := m.step(t)
		if err == nil && !taken && t.Kind != lex.End {
			err = wrong(t)
		}
		if err != nil {
			return api.Expr{}, err
		}
	}
	if tree.Depth(m.value) > 24 {
		return api.Expr{}, api.ErrDeep
	}
	return m.value, nil
}

// nodeModel reads a node.
type nodeModel struct {
	place string
	node  api.Node
	group int        // the number of variables that are declared together
	name  lex.Token  // that stands behind the `=` of an equation
	expr  *exprModel // that is being read
}

func modelOfNode(s string) (api.Node, error) {
	tokens, err := lex.All(s)
	if err != nil {
		return api.Node{}, err
	}
	m := nodeModel{place: "begin"}
	for _, t := range tokens {
		if err := m.step(t); err != nil {
			return api.Node{}, err
		}
	}
	if err := tree.Valid(m.node); err != nil {
		return api.Node{}, err
	}
	return m.node, nil
}

func (m *nodeModel) step(t lex.Token) error {
	if m.expr != nil {
		if taken, err := m.expr.step(t); taken || err != nil {
			return err
		}
		if m.place == "argument" {
			m.last().Args = append(m.last().Args, m.expr.value)
		} else {
			m.last().Expr = m.expr.value
		}
		m.expr = nil
	}
	if m.place == "right" || m.place == "right NAME" {
		return m.right(t)
	}
	if m.place == "first argument" && t.Text != ")" || m.place == "next argument" {
		return m.begin(t, "argument")
	}
	kind := t.Text
	switch t.Kind {
	case lex.Name:
		kind = "NAME"
	case lex.Number:
		kind = "NUMBER"
	case lex.End:
		kind = "END"
	}
	next := nextPlace(m.place, kind)
	if next == "" {
		return wrong(t)
	}
	m.keep(t, next)
	m.place = next
	return nil
}

// nextPlace is the place behind a token of that kind, or "" where it is not allowed.
func nextPlace(place, kind string) string {
	switch place + " " + kind {
	case "begin node":
		return "name"
	case "name NAME":
		return "named"
	case "named (":
		return "in first"
	case "in first )", "in typed )":
		return "returns"
	case "returns returns":
		return "out"
	case "out (":
		return "out next"
	case "out typed )":
		return "out ;"
	case "out ; ;":
		return "body"
	case "body var":
		return "var next"
	case "body let", "var again let":
		return "equations"
	case "equations NAME", "left , NAME":
		return "left"
	case "left ,":
		return "left ,"
	case "left =":
		return "right"
	case "first argument )", "argument )":
		return "called"
	case "argument ,":
		return "next argument"
	case "called every":
		return "every"
	case "every NAME":
		return "equation"
	case "called ;", "equation ;":
		return "equations"
	case "equations tel":
		return "tel"
	case "tel END":
		return "END"
	case "var typed ;":
		return "var again"
	case "in typed ;":
		return "in next"
	case "out typed ;":
		return "out next"
	}
	for _, x := range []string{"in ", "out ", "var "} {
		switch place + " " + kind {
		case x + "first NAME", x + "next NAME", x + "again NAME":
			return x + "variable"
		case x + "variable ,":
			return x + "names"
		case x + "names NAME":
			return x + "variable"
		case x + "variable :":
			return x + "type"
		case x + "type int", x + "type bool", x + "on NAME", x + "off NAME":
			return x + "typed"
		case x + "typed when":
			return x + "on"
		case x + "on not":
			return x + "off"
		}
	}
	return ""
}

// keep adds to the node what a token tells on the way to the next place.
func (m *nodeModel) keep(t lex.Token, next string) {
	switch {
	case next == "named":
		m.node.Name = t.Text
	case next == "left" && m.place == "equations":
		m.node.Eqs = append(m.node.Eqs, api.Equation{Pos: t.Pos, Left: []string{t.Text}})
	case next == "left":
		m.last().Left = append(m.last().Left, t.Text)
	case m.place == "every":
		m.last().Every = t.Text
	}
	for x, list := range map[string]*[]api.Decl{"in ": &m.node.In, "out ": &m.node.Out, "var ": &m.node.Local} {
		switch {
		case next == x+"variable":
			if m.place != x+"names" {
				m.group = 0
			}
			m.group++
			*list = append(*list, api.Decl{Pos: t.Pos, Name: t.Text})
		case m.place == x+"type":
			for i := range m.group {
				(*list)[len(*list)-1-i].Type = map[string]int{"int": 1, "bool": 2}[t.Text]
			}
		case next == x+"typed":
			for i := range m.group {
				d := &(*list)[len(*list)-1-i]
				d.Clocks = append(d.Clocks, api.Clock{Name: t.Text, On: m.place == x+"on"})
			}
		}
	}
}

func (m *nodeModel) last() *api.Equation { return &m.node.Eqs[len(m.node.Eqs)-1] }

// begin begins an expression with some tokens, none of which ends it.
func (m *nodeModel) begin(t lex.Token, place string) error {
	m.place = place
	m.expr = &exprModel{place: "operand"}
	_, err := m.expr.step(t)
	return err
}

// right is behind the `=` of an equation: a name there may begin a call.
func (m *nodeModel) right(t lex.Token) error {
	several := len(m.last().Left) > 1
	switch {
	case m.place == "right" && t.Kind == lex.Name:
		m.name, m.place = t, "right NAME"
		return nil
	case m.place == "right NAME" && t.Text == "(":
		m.last().Node, m.place = m.name.Text, "first argument"
		return nil
	case several:
		return wrong(t)
	case m.place == "right":
		return m.begin(t, "equation")
	}
	if err := m.begin(m.name, "equation"); err != nil {
		return err
	}
	return m.step(t)
}
