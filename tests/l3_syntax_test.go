package tests

import (
	"math"
	"slices"
	"strconv"
	"strings"
	"testing"

	"loop.example/g00892/impl"
)

// termText is the definition of the document, written down once more.
func termText(t impl.Term) string {
	if len(t.Args) == 0 {
		return t.Name
	}
	texts := []string{}
	for _, arg := range t.Args {
		texts = append(texts, termText(arg))
	}
	if t.Name == "=" {
		return strings.Join(texts, " = ")
	}
	return t.Name + "(" + strings.Join(texts, ",") + ")"
}

func literalText(l impl.Literal) string {
	if l.Positive {
		return termText(l.Atom)
	}
	if l.Atom.Name == "=" {
		return termText(l.Atom.Args[0]) + " != " + termText(l.Atom.Args[1])
	}
	return "~" + termText(l.Atom)
}

func clauseText(c impl.Clause) string {
	if len(c.Literals) == 0 {
		return "$false"
	}
	texts := []string{}
	for _, l := range c.Literals {
		texts = append(texts, literalText(l))
	}
	return strings.Join(texts, " | ")
}

func positionText(position []int) string {
	if len(position) == 0 {
		return "-"
	}
	texts := []string{}
	for _, i := range position {
		texts = append(texts, strconv.Itoa(i))
	}
	return strings.Join(texts, ".")
}

func yes(atom impl.Term) impl.Literal {
	return impl.Literal{Positive: true, Atom: atom}
}

func no(atom impl.Term) impl.Literal {
	return impl.Literal{Positive: false, Atom: atom}
}

func clauseOf(literals ...impl.Literal) impl.Clause {
	return impl.Clause{Literals: literals}
}

func sameLiteral(a, b impl.Literal) bool {
	return a.Positive == b.Positive && same(a.Atom, b.Atom)
}

func sameClause(a, b impl.Clause) bool {
	return slices.EqualFunc(a.Literals, b.Literals, sameLiteral)
}

func isZeroLiteral(l impl.Literal) bool {
	return !l.Positive && isZero(l.Atom)
}

// isLess is the order of literals in chapter 7, by the comparison of chapter 2.
func isLess(a, b impl.Literal) bool {
	order, _ := impl.CompareTerms(a.Atom, b.Atom)
	return order < 0 || order == 0 && !a.Positive && b.Positive
}

// isProperClause is the validity of clauses in chapter 7, by that of atoms in chapter 2.
func isProperClause(c impl.Clause) bool {
	for i, l := range c.Literals {
		if !impl.IsValidAtom(l.Atom) || i > 0 && !isLess(c.Literals[i-1], l) {
			return false
		}
	}
	return len(c.Literals) <= impl.MaxLiterals
}

// ascendingLiterals lists literals in the order of the document, each less than the next one.
func ascendingLiterals() []impl.Literal {
	list := []impl.Literal{}
	for _, e := range ascending() {
		if impl.IsValidAtom(e) {
			list = append(list, no(e), yes(e))
		}
	}
	return list
}

// literals lists valid literals, among them the greatest ones.
func literals() []impl.Literal {
	list := []impl.Literal{}
	for _, e := range expressions() {
		if impl.IsValidAtom(e) {
			list = append(list, no(e), yes(e))
		}
	}
	return list
}

// greatLiteral is the literal k of ten in ascending order that have the longest texts.
func greatLiteral(k int) impl.Literal {
	leaf := node("abcde" + strconv.Itoa(k))
	atom := node("abcdef", leaf, leaf, leaf, leaf)
	for depth := 2; depth < impl.MaxTermDepth; depth++ {
		atom = node("abcdef", atom, leaf, leaf, leaf)
	}
	atom.Args[3] = node("abcdef", leaf)
	return no(atom)
}

// clauses lists valid clauses, among them the greatest ones.
func clauses() []impl.Clause {
	all := ascendingLiterals()
	list := []impl.Clause{{}, {Literals: []impl.Literal{}}}
	for _, l := range literals() {
		list = append(list, clauseOf(l))
	}
	for count := 2; count <= impl.MaxLiterals; count++ {
		for from := 0; from+count <= len(all); from += count {
			list = append(list, clauseOf(all[from:from+count]...))
		}
		list = append(list, clauseOf(all[len(all)-count:]...))
	}
	great := impl.Clause{}
	for k := range impl.MaxLiterals {
		great.Literals = append(great.Literals, greatLiteral(k))
	}
	return append(list, great)
}

// allPositions lists the positions of at most size elements in 0..MaxArity-1.
func allPositions(size int) [][]int {
	list := [][]int{{}}
	for from := 0; size > 0; size-- {
		to := len(list)
		for _, position := range list[from:to] {
			for i := range impl.MaxArity {
				list = append(list, append(slices.Clone(position), i))
			}
		}
		from = to
	}
	return list
}

// accepted tests that each parsing function that accepts s returns the valid value whose text s
// is, that the others return zero values, and returns the letters of those that accept it:
// T(erm), A(tom), L(iteral), C(lause), P(osition).
func accepted(t *testing.T, s string) string {
	t.Helper()
	letters := ""
	check := func(letter string, ok bool, isZero bool, isValueOf bool) {
		t.Helper()
		if ok {
			letters += letter
		}
		if ok && !isValueOf || !ok && !isZero {
			t.Errorf("%s: parsing %q gives a wrong value, %v", letter, s, ok)
		}
	}
	term, ok := impl.ParseTerm(s)
	back, fine := impl.FormatTerm(term)
	check("T", ok, isZero(term), impl.IsValidTerm(term) && termText(term) == s && back == s && fine)
	atom, ok := impl.ParseAtom(s)
	back, fine = impl.FormatTerm(atom)
	check("A", ok, isZero(atom), impl.IsValidAtom(atom) && termText(atom) == s && back == s && fine)
	l, ok := impl.ParseLiteral(s)
	back, fine = impl.FormatLiteral(l)
	check("L", ok, isZeroLiteral(l), impl.IsValidAtom(l.Atom) && literalText(l) == s && back == s && fine)
	c, ok := impl.ParseClause(s)
	back, fine = impl.FormatClause(c)
	check("C", ok, len(c.Literals) == 0, isProperClause(c) && clauseText(c) == s && back == s && fine)
	p, ok := impl.ParsePosition(s)
	back, fine = impl.FormatPosition(p)
	check("P", ok, len(p) == 0, positionText(p) == s && back == s && fine)
	return letters
}

// textKinds are the letters that accepted returns for the text of a term, an atom or a literal.
func textKinds(e impl.Term) string {
	switch {
	case !impl.IsValidAtom(e):
		return "T"
	case e.Name == "=":
		return "ALC"
	}
	return "TALC"
}

func TestSyntaxExamples(t *testing.T) {
	if s, ok := impl.FormatTerm(node("f", node("a"), node("X"))); s != "f(a,X)" || !ok {
		t.Errorf("f with the arguments a and X: %q, %v", s, ok)
	}
	if e, ok := impl.ParseAtom("f(X) = a"); !same(e, node("=", node("f", node("X")), node("a"))) || !ok {
		t.Errorf("f(X) = a: %v, %v", e, ok)
	}
	if l, ok := impl.ParseLiteral("a != b"); !sameLiteral(l, no(node("=", node("a"), node("b")))) || !ok {
		t.Errorf("a != b: %v, %v", l, ok)
	}
	example := clauseOf(no(node("p", node("X"))), yes(node("q", node("X"), node("a"))))
	if s, ok := impl.FormatClause(example); s != "~p(X) | q(X,a)" || !ok {
		t.Errorf("~p(X) | q(X,a): %q, %v", s, ok)
	}
	if c, ok := impl.ParseClause("~p(X) | q(X,a)"); !sameClause(c, example) || !ok {
		t.Errorf("~p(X) | q(X,a): %v, %v", c, ok)
	}
	if p, ok := impl.ParsePosition("1.0"); !slices.Equal(p, []int{1, 0}) || !ok {
		t.Errorf("1.0: %v, %v", p, ok)
	}
}

func TestTextsOfTerms(t *testing.T) {
	x, a := node("X"), node("a")
	for _, c := range []struct {
		e    impl.Term
		text string
	}{
		{x, "X"}, {a, "a"}, {node("Zab9"), "Zab9"}, {node("a_9z__"), "a_9z__"}, {impl.Term{Name: "a", Args: []impl.Term{}}, "a"},
		{node("f", x), "f(X)"}, {node("f", a, node("g", x)), "f(a,g(X))"}, {node("f", node("g", x), a), "f(g(X),a)"}, {node("h", x, x, a, x), "h(X,X,a,X)"},
		{chain(8, a), "f(f(f(f(f(f(f(a)))))))"}, {node("f", node("f", node("f", a, a), a), a), "f(f(f(a,a),a),a)"},
		{node("=", x, a), "X = a"}, {node("=", node("f", a, x), node("g", x)), "f(a,X) = g(X)"},
	} {
		if s, ok := impl.FormatTerm(c.e); s != c.text || !ok {
			t.Errorf("FormatTerm(%v) = %q, %v", c.e, s, ok)
		}
		if e, ok := impl.ParseTerm(c.text); ok != (c.e.Name != "=") || ok && !same(e, c.e) {
			t.Errorf("ParseTerm(%q) = %v, %v", c.text, e, ok)
		}
		if e, ok := impl.ParseAtom(c.text); ok != impl.IsValidAtom(c.e) || ok && !same(e, c.e) {
			t.Errorf("ParseAtom(%q) = %v, %v", c.text, e, ok)
		}
	}
}

func TestTermsAreRecovered(t *testing.T) {
	for _, e := range expressions() {
		s, ok := impl.FormatTerm(e)
		if s != termText(e) || !ok {
			t.Errorf("FormatTerm(%v) = %q, %v", e, s, ok)
		}
		if got := accepted(t, s); got != textKinds(e) {
			t.Errorf("%q is accepted as %s", s, got)
		}
		if back, ok := impl.ParseTerm(s); ok != impl.IsValidTerm(e) || ok && !same(back, e) {
			t.Errorf("ParseTerm(%q) = %v, %v", s, back, ok)
		}
		if back, ok := impl.ParseAtom(s); ok != impl.IsValidAtom(e) || ok && !same(back, e) {
			t.Errorf("ParseAtom(%q) = %v, %v", s, back, ok)
		}
	}
}

func TestLiteralsAreRecovered(t *testing.T) {
	for _, l := range literals() {
		s, ok := impl.FormatLiteral(l)
		if s != literalText(l) || !ok {
			t.Errorf("FormatLiteral(%v) = %q, %v", l, s, ok)
		}
		if back, ok := impl.ParseLiteral(s); !sameLiteral(back, l) || !ok {
			t.Errorf("ParseLiteral(%q) = %v, %v", s, back, ok)
		}
		if got := accepted(t, s); !l.Positive && got != "LC" || l.Positive && got != textKinds(l.Atom) {
			t.Errorf("%q is accepted as %s", s, got)
		}
	}
}

func TestTextsOfLiterals(t *testing.T) {
	x, a, b := node("X"), node("a"), node("b")
	for _, c := range []struct {
		l    impl.Literal
		text string
	}{
		{yes(a), "a"}, {no(a), "~a"}, {yes(node("p", x, a)), "p(X,a)"}, {no(node("p", x, a)), "~p(X,a)"},
		{yes(node("=", a, b)), "a = b"}, {no(node("=", a, b)), "a != b"}, {no(node("=", x, x)), "X != X"}, {yes(node("=", x, node("f", x))), "X = f(X)"},
		{no(node("=", node("f", a, x), b)), "f(a,X) != b"},
	} {
		if s, ok := impl.FormatLiteral(c.l); s != c.text || !ok {
			t.Errorf("FormatLiteral(%v) = %q, %v", c.l, s, ok)
		}
		if l, ok := impl.ParseLiteral(c.text); !sameLiteral(l, c.l) || !ok {
			t.Errorf("ParseLiteral(%q) = %v, %v", c.text, l, ok)
		}
	}
}

func TestClausesAreRecovered(t *testing.T) {
	for _, c := range clauses() {
		if !isProperClause(c) {
			t.Fatalf("the test takes %v to be valid", c)
		}
		s, ok := impl.FormatClause(c)
		if s != clauseText(c) || !ok {
			t.Errorf("FormatClause(%v) = %q, %v", c, s, ok)
		}
		if back, ok := impl.ParseClause(s); !sameClause(back, c) || !ok {
			t.Errorf("ParseClause(%q) = %v, %v", s, back, ok)
		}
		if got := accepted(t, s); len(c.Literals) != 1 && got != "C" {
			t.Errorf("%q is accepted as %s", s, got)
		}
	}
}

func TestTextsOfClauses(t *testing.T) {
	x, a, b := node("X"), node("a"), node("b")
	for _, c := range []struct {
		c    impl.Clause
		text string
	}{
		{impl.Clause{}, "$false"}, {clauseOf(), "$false"}, {clauseOf(yes(a)), "a"}, {clauseOf(no(a), yes(a)), "~a | a"},
		{clauseOf(no(node("=", a, b)), yes(node("r"))), "a != b | r"}, {clauseOf(no(node("=", x, a)), yes(node("=", x, a)), no(a), yes(b)), "X != a | X = a | ~a | b"},
		{clauseOf(yes(node("p")), yes(node("p", x)), yes(node("p", a)), no(node("p", x, x))), "p | p(X) | p(a) | ~p(X,X)"},
	} {
		if s, ok := impl.FormatClause(c.c); s != c.text || !ok {
			t.Errorf("FormatClause(%v) = %q, %v", c.c, s, ok)
		}
		if got, ok := impl.ParseClause(c.text); !sameClause(got, c.c) || !ok {
			t.Errorf("ParseClause(%q) = %v, %v", c.text, got, ok)
		}
	}
}

func TestEmptyClauseIsNoLiteral(t *testing.T) {
	if got := accepted(t, "$false"); got != "C" {
		t.Errorf("$false is accepted as %s", got)
	}
	for _, s := range []string{
		"$false | p", "p | $false", "$false | $false", "p | $false | q", "~$false", "$false ", " $false", "$false | ", " | $false", "$False", "$true", "$", "$fals", "$falsee",
		"$false = a", "a = $false", "a != $false", "f($false)", "$false(a)", "$false()", "($false)", "false", "-",
	} {
		if c, ok := impl.ParseClause(s); ok || len(c.Literals) != 0 {
			t.Errorf("ParseClause(%q) = %v, %v", s, c, ok)
		}
		if l, ok := impl.ParseLiteral(s); ok || !isZeroLiteral(l) {
			t.Errorf("ParseLiteral(%q) = %v, %v", s, l, ok)
		}
	}
}

func TestLiteralsInAnyOtherOrderAreRejected(t *testing.T) {
	list := ascendingLiterals()
	for i, a := range list {
		for j, b := range list {
			s, ok := impl.FormatClause(clauseOf(a, b))
			if ok != (i < j) || ok && s != literalText(a)+" | "+literalText(b) || !ok && s != "" {
				t.Errorf("FormatClause of %s and %s: %q, %v", literalText(a), literalText(b), s, ok)
			}
			s = literalText(a) + " | " + literalText(b)
			c, ok := impl.ParseClause(s)
			if ok != (i < j) || ok && !sameClause(c, clauseOf(a, b)) || !ok && len(c.Literals) != 0 {
				t.Errorf("ParseClause(%q) = %v, %v", s, c, ok)
			}
		}
	}
	for from := 0; from+5 <= len(list); from += 3 {
		for i := range 5 {
			for j := range 5 {
				disordered := slices.Clone(list[from : from+5])
				disordered[i], disordered[j] = disordered[j], disordered[i]
				doubled := slices.Clone(list[from : from+5])
				doubled[i] = doubled[j]
				for _, c := range []impl.Clause{clauseOf(disordered...), clauseOf(doubled...)} {
					s, ok := impl.FormatClause(c)
					back, fine := impl.ParseClause(clauseText(c))
					if ok != (i == j) || fine != (i == j) || !ok && s != "" || !fine && len(back.Literals) != 0 {
						t.Errorf("%q: %q, %v, %v, %v", clauseText(c), s, ok, back, fine)
					}
				}
			}
		}
	}
}

// rejectedTexts lists texts that no parsing function accepts.
func rejectedTexts() []string {
	return []string{
		"", " ", "\n", "\x00", "\xff", ",", "(", ")", "()", "(a)", "(X)", "((a))", ".", "=", "!=", "|", "~", "!", "$", " = ", " != ", " | ", "--", "\u00e9",
		"a()", "X()", "f(a", "f(a))", "f(a)(", "f((a)", "f((a))", "f(a(", "f)", "f)a(", "f(", "fa)", "f(g(a)", "f(g(a)))", "f(a,g(X)", "f(a,g(X)))",
		"f(,a)", "f(a,)", "f(a,,a)", "f(,)", "f(,,)", "f(,", "f(a,", "f(a,b", "f(a,b,", "f(a,g())", "f(a,g(,))", "f(a,g(X,))", ",a", "a,", "a,b", "f(a),", "f(a),b", ",f(a)",
		"f(a)b", "f(a)X", "f(a)(b)", "f(a)f(b)", "f(a).", "a)", "a))", "a(", "a,b)", "X(a)", "X(X)", "f(X(a))", "f(a)g", "f(a)()", "f(a)0", "f(g(a)(b))", "f(g(a)(b)", "f(g(a)b)", "f(g(a)b,c)", "f(g(a)(b),c)",
		" a", "a ", " X", "X ", "a b", "a  b", "f (a)", "f( a)", "f(a )", "f(a) ", " f(a)", "f(a, X)", "f(a ,X)", "f(a,X) ", "f(a,\tX)", "f(a\n,X)", "f(a,X)\n", "f a", "f[a]", "f{a}", "\u00a0a",
		"a= b", "a =b", "a=b", "a  = b", "a =  b", " a = b", "a = b ", "a\t=\tb", "a =\u00a0b", "a == b", "a = = b", "a =  = b", "= a", " = a", "a =", "a = ", "a = b =", "= a = b",
		"a!= b", "a !=b", "a!=b", "a  != b", "a !=  b", " a != b", "a != b ", "a ! = b", "a !== b", "a != != b", "!= a", " != a", "a !=", "a != ",
		"~ p", " ~p", "~p ", "~~p", "~~~p", "~", "~ ", "~X", "~a = b", "~a != b", "~(a = b)", "~(p)", "~f()", "p~", "~p(X", "~X = a", "a = ~b", "~= a", "!p", "-p", "not p", "f(~a)",
		"a = b = c", "a = b = ", "a != b != c", "a = b != c", "a != b = c", "a = a = a", "X = X = X", "a = b = c = d", "(a = b)", "(a) = b", "a = (b)", "f(a = b)", "f(a != b)", "f(a,b = c)", "f(a = b,c)",
		"=(a,b)", "=(a)", "=", "!=(a,b)", "~=(a,b)", "f(=)", "f(=(a,b))", "f(a) = b)", "(f(a) = b", "f(a = b)", "a = X(b)", "a = true", "all = a", "a = f(a,)",
		"p |", "p | ", "| p", " | p", "p|q", "p |q", "p| q", "p  | q", "p |  q", " p | q", "p | q ", "p || q", "p | | q", "p |  | q", "p, q", "p & q", "p | q |", "p | q | ", "p || q", "p\t|\tq", "(p | q)", "(p) | q", "f(p | q)",
		"~p | ", "p | X", "X | p", "X | Y", "p | ~q = r", "p | ~X", "p | q()", "p | true", "q | p", "p | p", "p | ~p", "~p | ~p", "p = a | a = b | r", "p(a) | p(X)", "a = b | a != b",
		"true", "false", "truth", "both", "either", "if", "all", "some", "true(a)", "f(true)", "~some", "Xabcd", "XY", "X_", "abcdefg", "aB", "_", "a-b", "a.b", "p = q r", "a\x00", "f(a\xff)",
		"0.", ".0", "0..0", "1.", "..", ".", "-.0", "0.-", "-0", "-1", "+1", "+0", "00", "01", "0.00", "0.01", "1.02", "0.+1", "0.-1", "0.-0", "4", "5", "9", "10", "0.4", "4.0", "3.3.4", "0,1", "0 1", "0. 1", " 0", "0 ", "0.1 ", "0x1", "1e0", "1_0", "[1,0]", "1.0.",
		"0.0.0.0.0.0.0.0.0", "3.3.3.3.3.3.3.3.3", "0.0.0.0.0.0.0.0.", "99999999999999999999", "0.99999999999999999999", "\u0661", "0.\u0661", "1000000", "999999",
	}
}

func TestParsingRejects(t *testing.T) {
	for _, s := range rejectedTexts() {
		if got := accepted(t, s); got != "" {
			t.Errorf("%q is accepted as %s", s, got)
		}
	}
}

func TestTermsAndAtomsAreToldApart(t *testing.T) {
	for s, want := range map[string]string{
		"X": "T", "X0": "T", "Zabc": "T", "a": "TALC", "f(X)": "TALC", "X = Y": "ALC", "a = b": "ALC", "f(a) = X": "ALC", "X != a": "LC", "a != b": "LC", "~a": "LC", "~f(X)": "LC",
		"a | b": "C", "~a | a": "C", "X = a | a": "C", "$false": "C", "-": "P", "0": "P", "3": "P", "1.0": "P", "0.1.2.3.0.1.2.3": "P",
		"nottrue": "", "trues": "TALC", "if_": "TALC", "alls": "TALC", "tru": "TALC", "a0": "TALC", "a_": "TALC", "abcdef": "TALC", "abcdef(Xabc)": "TALC",
	} {
		if got := accepted(t, s); got != want {
			t.Errorf("%q is accepted as %q", s, got)
		}
	}
}

func TestLimitsOfTexts(t *testing.T) {
	x, a := node("X"), node("a")
	for i, c := range []struct {
		e       impl.Term
		isValid bool
	}{
		{chain(8, a), true}, {chain(9, a), false}, {chain(8, x), true}, {chain(9, x), false}, {chain(100, a), false},
		{bush(30), true}, {bush(31), false}, {deepAndWide(), true}, {node("g", deepAndWide()), false}, {bush(300), false},
		{node("=", chain(7, a), x), true}, {node("=", chain(8, a), x), false}, {node("=", x, chain(7, a)), true}, {node("=", x, chain(8, a)), false},
		{node("=", bush(14), bush(15)), true}, {node("=", bush(15), bush(15)), false}, {node("=", bush(28), x), true}, {node("=", bush(29), x), false},
		{node("f", a, x, a, x), true}, {node("f", a, x, a, x, a), false}, {node("f", node("f", a, x, a, x)), true}, {node("f", node("f", a, x, a, x, a)), false},
		{node("=", a, node("f", a, a, a, a)), true}, {node("=", a, node("f", a, a, a, a, a)), false}, {greatLiteral(1).Atom, true},
		{node("abcdef"), true}, {node("abcdefg"), false}, {node("f", node("Xabc")), true}, {node("f", node("Xabcd")), false},
	} {
		kinds, s := "", termText(c.e)
		if c.isValid {
			kinds = textKinds(c.e)
		}
		if got := accepted(t, s); got != kinds {
			t.Errorf("%d: %q is accepted as %q", i, s, got)
		}
		if back, ok := impl.FormatTerm(c.e); ok != c.isValid || ok && back != s || !ok && back != "" {
			t.Errorf("%d: FormatTerm(%v) = %q, %v", i, c.e, back, ok)
		}
		if got := accepted(t, "~"+s); (got == "LC") != (c.isValid && c.e.Name != "=") {
			t.Errorf("%d: %q is accepted as %q", i, "~"+s, got)
		}
		if got := accepted(t, strings.Replace(s, " = ", " != ", 1)); c.e.Name == "=" && (got == "LC") != c.isValid {
			t.Errorf("%d: the negation of %q is accepted as %q", i, s, got)
		}
	}
}

func TestLimitOfLiterals(t *testing.T) {
	all := ascendingLiterals()
	for count := range 20 {
		great := []impl.Literal{}
		for k := range min(count, 10) {
			great = append(great, greatLiteral(k))
		}
		for _, c := range []impl.Clause{clauseOf(all[:count]...), clauseOf(great...)} {
			fits := len(c.Literals) <= impl.MaxLiterals
			s, ok := impl.FormatClause(c)
			if ok != fits || ok && s != clauseText(c) || !ok && s != "" {
				t.Errorf("FormatClause of %d literals: %q, %v", len(c.Literals), s, ok)
			}
			back, ok := impl.ParseClause(clauseText(c))
			if ok != fits || ok && !sameClause(back, c) || !ok && len(back.Literals) != 0 {
				t.Errorf("ParseClause of %d literals: %v, %v", len(c.Literals), back, ok)
			}
		}
	}
	if s := literalText(greatLiteral(1)); len(s) < 200 || impl.MaxLiterals != 8 {
		t.Error("no great literal:", s)
	}
}

func TestPositionsAreRecovered(t *testing.T) {
	list := allPositions(impl.MaxTermDepth)
	texts := map[string]bool{}
	for _, position := range list {
		s, ok := impl.FormatPosition(position)
		if s != positionText(position) || !ok {
			t.Fatalf("FormatPosition(%v) = %q, %v", position, s, ok)
		}
		if back, ok := impl.ParsePosition(s); !slices.Equal(back, position) || !ok {
			t.Fatalf("ParsePosition(%q) = %v, %v", s, back, ok)
		}
		texts[s] = true
	}
	for _, s := range stringsOver("0134.-+ ", 6) {
		position, ok := impl.ParsePosition(s)
		if ok != texts[s] || ok && positionText(position) != s || !ok && len(position) != 0 {
			t.Fatalf("ParsePosition(%q) = %v, %v", s, position, ok)
		}
	}
	if s, ok := impl.FormatPosition(nil); s != "-" || !ok {
		t.Errorf("FormatPosition(nil) = %q, %v", s, ok)
	}
}

func TestOtherPositionsAreRejected(t *testing.T) {
	wrong := []int{4, 5, 10, -1, -2, 999999, 1000000, math.MaxInt, math.MinInt, 1 << 32, -1 << 32}
	positions := [][]int{make([]int, 9), make([]int, 10), make([]int, 1000000), slices.Repeat([]int{3}, 9)}
	for _, i := range wrong {
		for size := 1; size <= impl.MaxTermDepth; size++ {
			for at := range size {
				position := slices.Repeat([]int{at % impl.MaxArity}, size)
				position[at] = i
				positions = append(positions, position)
			}
		}
	}
	for _, position := range positions {
		if s, ok := impl.FormatPosition(position); s != "" || ok {
			t.Errorf("FormatPosition(%v) = %q, %v", position, s, ok)
		}
		if back, ok := impl.ParsePosition(positionText(position)); len(back) != 0 || ok {
			t.Errorf("ParsePosition of %v = %v, %v", position, back, ok)
		}
	}
	for size := range 20 {
		for i := range impl.MaxArity + 2 {
			position := slices.Repeat([]int{i}, size)
			s, ok := impl.FormatPosition(position)
			if want := size <= impl.MaxTermDepth && (i < impl.MaxArity || size == 0); ok != want || !ok && s != "" {
				t.Errorf("FormatPosition(%v) = %q, %v", position, s, ok)
			}
		}
	}
}

// smallTerms lists the valid terms over a, X and f whose texts have at most size bytes.
func smallTerms(size int) []impl.Term {
	if size < 1 {
		return nil
	}
	list := []impl.Term{node("a"), node("X")}
	for _, name := range []string{"a", "aa", "aX", "Xa", "aaa", "Xaa", "aaaa", "Xaaa", "aaaaa", "aaaaaa", "Xaaaa", "aaaaaaa"} {
		if len(name) <= size && len(name) > 1 && impl.IsValidTerm(node(name)) {
			list = append(list, node(name))
		}
	}
	for _, name := range []string{"a", "aa", "aaa", "aaaa", "aaaaa", "aaaaaa"} {
		for _, args := range smallLists(size-len(name)-2, impl.MaxArity) {
			list = append(list, node(name, args...))
		}
	}
	return list
}

// smallLists lists the lists of 1..most such terms whose texts have at most size bytes together.
func smallLists(size int, most int) [][]impl.Term {
	lists := [][]impl.Term{}
	if size < 1 || most < 1 {
		return lists
	}
	for _, first := range smallTerms(size) {
		lists = append(lists, []impl.Term{first})
		for _, rest := range smallLists(size-len(termText(first))-1, most-1) {
			lists = append(lists, slices.Concat([]impl.Term{first}, rest))
		}
	}
	return lists
}

func TestShortStringsAreTextsOrRejected(t *testing.T) {
	const size = 7
	texts := map[string]bool{}
	for _, e := range smallTerms(size) {
		texts[termText(e)] = true
	}
	for _, s := range stringsOver("aX(,) ", size) {
		e, ok := impl.ParseTerm(s)
		if ok != texts[s] || ok && (termText(e) != s || !impl.IsValidTerm(e)) || !ok && !isZero(e) {
			t.Fatalf("ParseTerm(%q) = %v, %v", s, e, ok)
		}
	}
}

// tokenStrings lists the strings of at most size of the tokens.
func tokenStrings(size int, tokens ...string) []string {
	all := []string{""}
	for from := 0; size > 0; size-- {
		to := len(all)
		for _, s := range all[from:to] {
			for _, token := range tokens {
				all = append(all, s+token)
			}
		}
		from = to
	}
	slices.Sort(all)
	return slices.Compact(all)
}

// smallClauseTexts maps the texts of the valid clauses of at most three literals over a, b and X.
func smallClauseTexts() map[string]bool {
	list := []impl.Literal{}
	leaves := []impl.Term{node("X"), node("a"), node("b")}
	for _, a := range leaves {
		for _, b := range leaves {
			list = append(list, no(node("=", a, b)), yes(node("=", a, b)))
		}
	}
	list = append(list, no(node("a")), yes(node("a")), no(node("b")), yes(node("b")))
	texts := map[string]bool{"$false": true}
	for i, a := range list {
		texts[literalText(a)] = true
		for j, b := range list[i+1:] {
			texts[literalText(a)+" | "+literalText(b)] = true
			for _, c := range list[i+1+j+1:] {
				texts[literalText(a)+" | "+literalText(b)+" | "+literalText(c)] = true
			}
		}
	}
	return texts
}

func hasLongName(s string) bool {
	for i := 1; i < len(s); i++ {
		if strings.ContainsAny(s[i-1:i], "abX") && strings.ContainsAny(s[i:i+1], "ab") {
			return true
		}
	}
	return false
}

func TestTokensAreClausesOrRejected(t *testing.T) {
	texts := smallClauseTexts()
	list := tokenStrings(6, "a", "b", "X", " = ", " != ", " | ", "~", " ")
	list = append(list, tokenStrings(5, "a", "b", "~b", " = ", "=", " != ", " | ", "|", "$false", " ", "a = b", "a != b")...)
	for _, s := range list {
		got := strings.Contains(accepted(t, s), "C")
		// Names of more than one letter are not among the clauses that are listed.
		if got != texts[s] && !hasLongName(s) {
			t.Fatalf("%q is accepted as a clause: %v", s, got)
		}
	}
}

// changedTexts lists the strings that differ from s by one byte that is left out, doubled,
// replaced or added, or by two neighbours that change places.
func changedTexts(s string) []string {
	list := []string{}
	for i := range len(s) {
		list = append(list, s[:i]+s[i+1:], s[:i+1]+s[i:])
		if i > 0 {
			list = append(list, s[:i-1]+s[i:i+1]+s[i-1:i]+s[i+1:])
		}
		for _, c := range "aX0_(),=!~|$ .-\x00" {
			list = append(list, s[:i]+string(c)+s[i+1:], s[:i]+string(c)+s[i:])
		}
	}
	return append(list, s+s, s+" ", s+",", s+")", s+"(", s+"()", s+" | ", s+" | "+s, s+" = ", s+" = a", s+" != a", "a = "+s, "~"+s, "("+s+")", s+"\n", s+"\x00")
}

func TestChangedTextsAreTextsOrRejected(t *testing.T) {
	texts := []string{"-", "0.1.2.3.3.2.1.0", "$false"}
	for _, c := range clauses() {
		if s := clauseText(c); len(s) < 300 {
			texts = append(texts, s)
		}
	}
	for _, e := range expressions() {
		texts = append(texts, termText(e))
	}
	for _, s := range texts {
		for _, changed := range changedTexts(s) {
			accepted(t, changed)
		}
	}
}

func TestAdditionalSpacesAreRejected(t *testing.T) {
	for _, c := range clauses() {
		s := clauseText(c)
		for i := range len(s) + 1 {
			for _, space := range []string{" ", "\t", "\n", "  "} {
				if got := accepted(t, s[:i]+space+s[i:]); got != "" {
					t.Fatalf("%q is accepted as %s", s[:i]+space+s[i:], got)
				}
			}
			if i < len(s) && s[i] == ' ' {
				if got := accepted(t, s[:i]+s[i+1:]); got != "" {
					t.Fatalf("%q is accepted as %s", s[:i]+s[i+1:], got)
				}
			}
		}
	}
}

func TestParenthesesAreBalanced(t *testing.T) {
	for _, c := range clauses() {
		s := clauseText(c)
		for i := range len(s) + 1 {
			for _, sign := range []string{"(", ")"} {
				if got := accepted(t, s[:i]+sign+s[i:]); got != "" {
					t.Fatalf("%q is accepted as %s", s[:i]+sign+s[i:], got)
				}
			}
			if i < len(s) && (s[i] == '(' || s[i] == ')') {
				if got := accepted(t, s[:i]+s[i+1:]); got != "" {
					t.Fatalf("%q is accepted as %s", s[:i]+s[i+1:], got)
				}
			}
		}
	}
}

func TestInvalidValuesHaveNoText(t *testing.T) {
	for i, e := range append(invalidTerms(), unboundedTerms()...) {
		if s, ok := impl.FormatTerm(e); s != "" || ok {
			t.Errorf("%d: FormatTerm of %q = %q, %v", i, e.Name, s, ok)
		}
	}
	for i, e := range append(invalidTerms(), append(unboundedTerms(), node("X"), node("Zab9"))...) {
		for _, l := range []impl.Literal{no(e), yes(e)} {
			if s, ok := impl.FormatLiteral(l); s != "" || ok {
				t.Errorf("%d: FormatLiteral of %q = %q, %v", i, e.Name, s, ok)
			}
			small, great := no(node("=", node("A"), node("A"))), yes(node("zzzzzz", node("z")))
			for j, c := range []impl.Clause{clauseOf(l), clauseOf(l, great), clauseOf(small, l), clauseOf(small, l, great), clauseOf(great, l), clauseOf(l, l)} {
				if s, ok := impl.FormatClause(c); s != "" || ok {
					t.Errorf("%d, %d: FormatClause of %q = %q, %v", i, j, e.Name, s, ok)
				}
			}
		}
	}
	for _, c := range []impl.Clause{{Literals: make([]impl.Literal, 1)}, {Literals: make([]impl.Literal, 8)}, {Literals: make([]impl.Literal, 1000000)}} {
		if s, ok := impl.FormatClause(c); s != "" || ok {
			t.Errorf("FormatClause of %d zero literals = %q, %v", len(c.Literals), s, ok)
		}
	}
}

// hasSignsInNames reports whether the text of a Term may be that of another one, too.
func hasSignsInNames(t impl.Term) bool {
	return strings.ContainsAny(t.Name, "(,)") || t.Name == "=" && len(t.Args) == 1 || slices.ContainsFunc(t.Args, hasSignsInNames)
}

func TestTextsOfInvalidTermsAreRejected(t *testing.T) {
	for _, e := range invalidTerms() {
		if got := accepted(t, termText(e)); strings.ContainsAny(got, "TAL") && !hasSignsInNames(e) {
			t.Errorf("%q is accepted as %s", termText(e), got)
		}
	}
}

func TestParsingReturnsForLongTexts(t *testing.T) {
	const many = 100000
	for _, part := range []string{"f(", "f(a,", "a,", "a", "X", "(", ")", "~", " = ", "a = ", " != ", "a != ", " | ", "a | ", "~a | ", "a = b | ", "0.", "0", ".", "-", " ", "\x00", "\xff", "f(f(f(f(a,a,a,a),", "$false"} {
		for _, s := range []string{strings.Repeat(part, many), "f(" + strings.Repeat(part, many), strings.Repeat(part, many) + "a"} {
			if got := accepted(t, s); got != "" {
				t.Errorf("many %q are accepted as %s", part, got)
			}
		}
	}
	// The stack of a program that followed these parentheses would have no room for them.
	const tooMany = 20000000
	if got := accepted(t, strings.Repeat("f(", tooMany)+"a"+strings.Repeat(")", tooMany)); got != "" {
		t.Errorf("a deep term is accepted as %s", got)
	}
}

func TestFormattingChangesNoArgument(t *testing.T) {
	for _, e := range append(expressions(), invalidTerms()...) {
		a := withRoom(e)
		text, ok := impl.FormatTerm(a)
		want, fine := impl.FormatTerm(e)
		if !same(a, e) || !roomIsKept(a) || text != want || ok != fine {
			t.Fatalf("FormatTerm(%v) = %q, %v", e, text, ok)
		}
		text, ok = impl.FormatLiteral(no(a))
		want, fine = impl.FormatLiteral(no(e))
		if !same(a, e) || !roomIsKept(a) || text != want || ok != fine {
			t.Fatalf("FormatLiteral(%v) = %q, %v", no(e), text, ok)
		}
	}
	for _, c := range append(clauses(), clauseOf(yes(node("q")), yes(node("p"))), clauseOf(yes(node("p")), yes(node("p")))) {
		room := []impl.Literal{}
		for _, l := range c.Literals {
			room = append(room, impl.Literal{Positive: l.Positive, Atom: withRoom(l.Atom)})
		}
		room = append(room, yes(node("beyond")), yes(node("a")))
		count := len(c.Literals)
		text, ok := impl.FormatClause(clauseOf(room[:count]...))
		want, fine := impl.FormatClause(c)
		if text != want || ok != fine || !sameClause(clauseOf(room...), clauseOf(slices.Concat(c.Literals, []impl.Literal{yes(node("beyond")), yes(node("a"))})...)) {
			t.Fatalf("FormatClause(%v) = %q, %v", c, text, ok)
		}
		if slices.ContainsFunc(room[:count], func(l impl.Literal) bool { return !roomIsKept(l.Atom) }) {
			t.Fatalf("FormatClause changes memory of %v", c)
		}
	}
	for _, position := range [][]int{{}, {1}, {3, 2, 1, 0}, {4}, make([]int, 8), make([]int, 9)} {
		p := append(slices.Clone(position), 7, 7)
		text, ok := impl.FormatPosition(p[:len(position)])
		if want, fine := impl.FormatPosition(position); text != want || ok != fine || !slices.Equal(p, append(slices.Clone(position), 7, 7)) {
			t.Errorf("FormatPosition(%v) = %q, %v", position, text, ok)
		}
	}
}

// checkSeparate tests that the parts share no memory, which it changes part by part.
func checkSeparate(t *testing.T, s string, parts ...*impl.Term) {
	t.Helper()
	for i, part := range parts {
		wanted := []impl.Term{}
		for _, later := range parts[i+1:] {
			wanted = append(wanted, clone(*later))
		}
		spoil(part)
		for j, later := range parts[i+1:] {
			if !same(*later, wanted[j]) {
				t.Fatalf("parts of results for %q share memory", s)
			}
		}
	}
}

func TestParsedTermsAreSeparate(t *testing.T) {
	for _, e := range expressions() {
		s := termText(e)
		first, _ := impl.ParseTerm(s)
		second, _ := impl.ParseAtom(s)
		third, _ := impl.ParseTerm(s)
		fourth, _ := impl.ParseLiteral(s)
		parts := []*impl.Term{&first, &second, &fourth.Atom}
		for i := range third.Args {
			parts = append(parts, &third.Args[i])
		}
		checkSeparate(t, s, parts...)
	}
	for _, c := range clauses() {
		s := clauseText(c)
		first, _ := impl.ParseClause(s)
		second, _ := impl.ParseClause(s)
		parts := []*impl.Term{}
		for i := range first.Literals {
			parts = append(parts, &first.Literals[i].Atom, &second.Literals[i].Atom)
		}
		checkSeparate(t, s, parts...)
		for i := range first.Literals {
			first.Literals[i] = impl.Literal{}
		}
		if len(second.Literals) > 0 && second.Literals[0].Atom.Name != "spoilt" {
			t.Fatalf("two results for %q share memory", s)
		}
	}
}

func TestParsedPositionsAreSeparate(t *testing.T) {
	for _, s := range []string{"-", "0", "1.0", "3.3.3.3.3.3.3.3", "4", ""} {
		first, _ := impl.ParsePosition(s)
		second, _ := impl.ParsePosition(s)
		want := slices.Clone(second)
		for i := range first {
			first[i] = -1
		}
		_ = append(first, -1, -1)
		if !slices.Equal(second, want) {
			t.Errorf("two results for %q share memory", s)
		}
	}
}
