package tests

import (
	"maps"
	"regexp"
	"slices"
	"strconv"
	"strings"
	"testing"

	"loop.example/g00892/impl"
)

// expr is the expression with the given text.
func expr(s string) impl.Term {
	e, ok := impl.ParseTerm(s)
	if !ok {
		e, ok = impl.ParseAtom(s)
	}
	if !ok {
		panic("no expression: " + s)
	}
	return e
}

func bind(name string, e impl.Term) impl.Binding {
	return impl.Binding{Var: name, Term: e}
}

func subOf(bindings ...impl.Binding) impl.Substitution {
	return impl.Substitution{Bindings: bindings}
}

// sub is the substitution with the given text, valid or not.
func sub(s string) impl.Substitution {
	result := impl.Substitution{}
	for _, text := range strings.Split(s, ";") {
		if name, value, isBinding := strings.Cut(text, ":="); isBinding {
			result.Bindings = append(result.Bindings, bind(name, expr(value)))
		}
	}
	return result
}

// subText is the definition of the document, written down once more.
func subText(s impl.Substitution) string {
	texts := []string{}
	for _, b := range s.Bindings {
		texts = append(texts, b.Var+":="+termText(b.Term))
	}
	return strings.Join(texts, ";")
}

func sameSub(a, b impl.Substitution) bool {
	return slices.EqualFunc(a.Bindings, b.Bindings, func(x, y impl.Binding) bool { return x.Var == y.Var && same(x.Term, y.Term) })
}

func isEmptySub(s impl.Substitution) bool {
	return len(s.Bindings) == 0
}

func cloneSub(s impl.Substitution) impl.Substitution {
	c := impl.Substitution{}
	for _, b := range s.Bindings {
		c.Bindings = append(c.Bindings, bind(b.Var, clone(b.Term)))
	}
	return c
}

// names lists the given number of variable names in ascending order.
func names(count int) []string {
	list := []string{}
	for i := range count {
		list = append(list, "V"+strconv.Itoa(10+i))
	}
	return list
}

// many binds each of the given number of variables to the same term.
func many(count int, e impl.Term) impl.Substitution {
	s := impl.Substitution{}
	for _, name := range names(count) {
		s.Bindings = append(s.Bindings, bind(name, e))
	}
	return s
}

// rotation binds each of the given number of variables to the next one, and the last to the first.
func rotation(count int) impl.Substitution {
	s, list := impl.Substitution{}, names(count)
	for i, name := range list {
		s.Bindings = append(s.Bindings, bind(name, node(list[(i+1)%count])))
	}
	return s
}

// leaves is an expression with the given leaves, of which it has room for 22.
func leaves(list ...impl.Term) impl.Term {
	if len(list) <= impl.MaxArity {
		return node("h", list...)
	}
	return node("h", list[0], list[1], list[2], leaves(list[3:]...))
}

func nodes(list ...string) []impl.Term {
	terms := []impl.Term{}
	for _, name := range list {
		terms = append(terms, node(name))
	}
	return terms
}

// substitutions lists valid substitutions, among them the greatest ones.
func substitutions() []impl.Substitution {
	list := []impl.Substitution{{}, {Bindings: []impl.Binding{}}}
	for _, text := range []string{
		"X:=a", "X:=b", "Y:=a", "X:=Y", "Y:=X", "X:=Y;Y:=X", "X:=f(Y);Y:=a", "X:=f(X)", "X:=g(X,X)", "X:=f(Y);Y:=f(X)", "X:=Z;Y:=Z", "X:=Y;Y:=Z", "X:=Z;Y:=X",
		"X:=Y;Y:=Z;Z:=X", "X:=Z;Y:=X;Z:=Y", "A:=X;X:=f(A,Z)", "G:=G0;G0:=G", "G:=G1;G0:=G10;G10:=G;Ga:=Zzzz", "G:=a;G0:=b;G1:=a(X);G10:=f(Ga);Ga:=G", "X0:=f(X);Z:=f(a,b)",
		"A:=B", "B:=A", "X:=f(a,b);Y:=g;Zzzz:=z", "X:=h(X,Y,Z,X);Y:=h(Z,Y,Y,X);Z:=h(X,X,X,X)", "W:=X;X:=Y;Y:=Z;Z:=W",
	} {
		list = append(list, sub(text))
	}
	for _, e := range []impl.Term{chain(8, node("X")), chain(8, node("a")), chain(4, node("X")), chain(5, node("Y")), bush(30), bush(15), bush(2), deepAndWide()} {
		list = append(list, subOf(bind("X", e)), subOf(bind("X", node("Y")), bind("Y", e)))
	}
	wide := many(12, deepAndWide())
	return append(list, many(12, node("a")), many(12, node("X")), many(6, node("V16")), rotation(12), rotation(7), rotation(2), wide, subOf(bind("V10", node("V23"))), subOf(bind("V23", node("V10"))))
}

// patterns lists expressions, among them such with many variables.
func patterns() []impl.Term {
	list := expressions()
	for _, text := range []string{
		"f(Y)", "g(X,Y)", "g(Y,X)", "g(X,X)", "g(a,a)", "g(f(X),X)", "g(X,f(X))", "g(f(Y),f(X))", "g(Z,X)", "h(X,Y,Z,X)", "h(Y,Z,X,Y)", "h(X,X,X,X)", "h(X,Y,X,Y)", "X = f(Y)", "f(X) = X", "f(a,X) = f(Y,b)",
	} {
		list = append(list, expr(text))
	}
	for _, count := range []int{2, 11, 12, 13, 22} {
		own := nodes(names(count)...)
		list = append(list, leaves(own...), leaves(append(slices.Clone(own[1:]), own[0])...), leaves(slices.Repeat(own[:1], count)...), leaves(slices.Repeat([]impl.Term{node("a")}, count)...))
	}
	return list
}

// plainApply is the definition of the document without its limits.
func plainApply(s map[string]impl.Term, e impl.Term) impl.Term {
	if value, isBound := s[e.Name]; isBound && len(e.Args) == 0 {
		return clone(value)
	}
	result := impl.Term{Name: e.Name}
	for _, arg := range e.Args {
		result.Args = append(result.Args, plainApply(s, arg))
	}
	return result
}

func mapOf(s impl.Substitution) map[string]impl.Term {
	m := map[string]impl.Term{}
	for _, b := range s.Bindings {
		m[b.Var] = b.Term
	}
	return m
}

func fitsLimits(e impl.Term) bool {
	size, depth := sizeAndDepth(e)
	return size <= impl.MaxTermSize && depth <= impl.MaxTermDepth
}

// fromMap is the substitution of the bindings that are not trivial, and whether it is valid.
func fromMap(m map[string]impl.Term) (impl.Substitution, bool) {
	s, ok := impl.Substitution{}, true
	for _, name := range slices.Sorted(maps.Keys(m)) {
		if !same(m[name], node(name)) {
			s.Bindings = append(s.Bindings, bind(name, m[name]))
			ok = ok && m[name].Name != "=" && fitsLimits(m[name])
		}
	}
	return s, ok && len(s.Bindings) <= impl.MaxBindings
}

// plainCompose follows each variable through both substitutions.
func plainCompose(s, u impl.Substitution) (impl.Substitution, bool) {
	first, second, both := mapOf(s), mapOf(u), map[string]impl.Term{}
	for _, b := range slices.Concat(s.Bindings, u.Bindings) {
		both[b.Var] = plainApply(second, plainApply(first, node(b.Var)))
	}
	return fromMap(both)
}

// plainMatch reads the bindings off and tests whether they lead to the expression.
func plainMatch(pattern, e impl.Term) (impl.Substitution, bool) {
	m := map[string]impl.Term{}
	var read func(p, e impl.Term)
	read = func(p, e impl.Term) {
		if 'A' <= p.Name[0] && p.Name[0] <= 'Z' {
			m[p.Name] = e
		}
		for i := range min(len(p.Args), len(e.Args)) {
			read(p.Args[i], e.Args[i])
		}
	}
	read(pattern, e)
	s, ok := fromMap(m)
	return s, ok && same(plainApply(m, pattern), e)
}

// variablesOf lists the variables of an expression in ascending order, without the program.
func variablesOf(e impl.Term) []string {
	list := []string{}
	if 'A' <= e.Name[0] && e.Name[0] <= 'Z' {
		list = append(list, e.Name)
	}
	for _, arg := range e.Args {
		list = append(list, variablesOf(arg)...)
	}
	slices.Sort(list)
	return slices.Compact(list)
}

// checkApply tests one application against the definition.
func checkApply(t *testing.T, s impl.Substitution, e impl.Term) {
	t.Helper()
	want := plainApply(mapOf(s), e)
	r, ok := impl.ApplySubstitution(s, e)
	if fits := fitsLimits(want); ok != fits || ok && !same(r, want) || !ok && !isZero(r) {
		t.Fatalf("applying {%s} to %s gives %s, %v", subText(s), termText(e), termText(r), ok)
	}
}

// checkCompose tests one composition against the definition.
func checkCompose(t *testing.T, s, u impl.Substitution) {
	t.Helper()
	want, fits := plainCompose(s, u)
	c, ok := impl.ComposeSubstitutions(s, u)
	if ok != fits || ok && (!sameSub(c, want) || !impl.IsValidSubstitution(c)) || !ok && !isEmptySub(c) {
		t.Fatalf("composing {%s} and {%s} gives {%s}, %v", subText(s), subText(u), subText(c), ok)
	}
}

// checkMatch tests one match against the definition.
func checkMatch(t *testing.T, pattern, e impl.Term) {
	t.Helper()
	want, fits := plainMatch(pattern, e)
	m, ok := impl.MatchTerms(pattern, e)
	if ok != fits || ok && (!sameSub(m, want) || !impl.IsValidSubstitution(m)) || !ok && !isEmptySub(m) {
		t.Fatalf("matching %s with %s gives {%s}, %v", termText(pattern), termText(e), subText(m), ok)
	}
	if r, fine := impl.ApplySubstitution(m, pattern); ok && (!same(r, e) || !fine) {
		t.Fatalf("the match {%s} of %s with %s gives %s", subText(m), termText(pattern), termText(e), termText(r))
	}
	for _, b := range m.Bindings {
		if !slices.Contains(variablesOf(pattern), b.Var) {
			t.Fatalf("the match of %s with %s binds %s", termText(pattern), termText(e), b.Var)
		}
	}
	if yes, fine := impl.IsInstance(e, pattern); yes != ok || !fine {
		t.Fatalf("IsInstance(%s, %s) = %v, %v", termText(e), termText(pattern), yes, fine)
	}
}

func TestSubstitutionExamples(t *testing.T) {
	x, y, a, b := node("X"), node("Y"), node("a"), node("b")
	r, ok := impl.ApplySubstitution(subOf(bind("X", node("f", y)), bind("Y", a)), node("g", x, y))
	if !same(r, node("g", node("f", y), a)) || !ok {
		t.Errorf("applying {X: f(Y), Y: a} to g(X,Y): %v, %v", r, ok)
	}
	c, ok := impl.ComposeSubstitutions(subOf(bind("X", y)), subOf(bind("Y", x)))
	if !sameSub(c, subOf(bind("Y", x))) || !ok {
		t.Errorf("composing {X: Y} and {Y: X}: %v, %v", c, ok)
	}
	m, ok := impl.MatchTerms(node("g", x, x), node("g", a, a))
	if !sameSub(m, subOf(bind("X", a))) || !ok {
		t.Errorf("matching g(X,X) with g(a,a): %v, %v", m, ok)
	}
	m, ok = impl.MatchTerms(node("g", x, x), node("g", a, b))
	if !isEmptySub(m) || ok {
		t.Errorf("matching g(X,X) with g(a,b): %v, %v", m, ok)
	}
	if s, ok := impl.FormatSubstitution(impl.Substitution{}); s != "" || !ok {
		t.Errorf("the text of the empty substitution: %q, %v", s, ok)
	}
}

func TestValidSubstitutions(t *testing.T) {
	for _, s := range slices.Concat(substitutions(), smallPairs(), renamings()) {
		if !impl.IsValidSubstitution(s) {
			t.Errorf("{%s} is invalid", subText(s))
		}
	}
	for i, s := range invalidSubstitutions() {
		if impl.IsValidSubstitution(s) {
			t.Errorf("%d: %d bindings are valid", i, len(s.Bindings))
		}
	}
}

func TestLimitOfBindings(t *testing.T) {
	if impl.MaxBindings != 12 {
		t.Error(impl.MaxBindings)
	}
	for count := range 30 {
		s, fits := many(count, node("a")), count <= impl.MaxBindings
		if impl.IsValidSubstitution(s) != fits {
			t.Errorf("%d bindings", count)
		}
		r, ok := impl.ApplySubstitution(s, node("f", node("V10")))
		if ok != fits || count > 0 && ok && !same(r, node("f", node("a"))) || !ok && !isZero(r) {
			t.Errorf("applying %d bindings gives %v, %v", count, r, ok)
		}
		if text, ok := impl.FormatSubstitution(s); ok != fits || ok && text != subText(s) || !ok && text != "" {
			t.Errorf("the text of %d bindings is %q, %v", count, text, ok)
		}
	}
}

var variableName = regexp.MustCompile(`^[A-Z][a-z0-9]{0,3}$`)

// possibleNames lists variable names and many strings that are almost like one.
func possibleNames() []string {
	list := append(stringsOver("aZ0_=", 5), reservedWords...)
	for c := range 256 {
		s := string([]byte{byte(c)})
		list = append(list, s, s+"a", "X"+s, "Xab"+s, "Xabc"+s, "X"+s+"b")
	}
	return append(list, strings.Repeat("X", 5000), "X"+strings.Repeat("x", 5000), "X:=a", "X;", "f(X)")
}

func TestBoundNames(t *testing.T) {
	for _, name := range possibleNames() {
		for _, e := range []impl.Term{node("a"), node("f", node("Zzzz"))} {
			if impl.IsValidSubstitution(subOf(bind(name, e))) != variableName.MatchString(name) {
				t.Fatalf("the name %q is bound", name)
			}
		}
		if name != "A" && name != "Zzz9" && impl.IsValidSubstitution(subOf(bind("A", node("a")), bind(name, node("a")), bind("Zzz9", node("a")))) != (variableName.MatchString(name) && name > "A") {
			t.Fatalf("the name %q is bound between two others", name)
		}
	}
}

func TestBindingsAreStrictlyAscending(t *testing.T) {
	list := []string{"A", "B", "G", "G0", "G01", "G1", "G10", "G2", "Ga", "Ga0", "Gab", "Gb", "H", "X", "X0", "X9", "Xa", "Xz", "Xzz", "Xzzz", "Y", "Z", "Z0", "Z999", "Zz"}
	for i, a := range list {
		for j, b := range list {
			for _, e := range []impl.Term{node("a"), node("f", node("X"))} {
				s := subOf(bind(a, node("c")), bind(b, e))
				if impl.IsValidSubstitution(s) != (i < j) {
					t.Errorf("%s and %s are bound in this order", a, b)
				}
			}
		}
	}
	for i := range impl.MaxBindings {
		for j := range impl.MaxBindings {
			swapped, doubled := many(impl.MaxBindings, node("a")), many(impl.MaxBindings, node("a"))
			swapped.Bindings[i], swapped.Bindings[j] = swapped.Bindings[j], swapped.Bindings[i]
			doubled.Bindings[i] = doubled.Bindings[j]
			if impl.IsValidSubstitution(swapped) != (i == j) || impl.IsValidSubstitution(doubled) != (i == j) {
				t.Errorf("the bindings %d and %d", i, j)
			}
		}
	}
}

func TestBoundTerms(t *testing.T) {
	for _, e := range patterns() {
		for _, name := range []string{"X", "X0", "Y", "New", "V10"} {
			if impl.IsValidSubstitution(subOf(bind(name, e))) != (e.Name != "=" && e.Name != name) {
				t.Errorf("%s is bound to %s", name, termText(e))
			}
		}
	}
	for i, e := range append(append(invalidTerms(), unboundedTerms()...), expr("a = b"), expr("X = X")) {
		for at := range impl.MaxBindings {
			s := many(impl.MaxBindings, node("a"))
			s.Bindings[at].Term = e
			if impl.IsValidSubstitution(s) {
				t.Errorf("the binding %d is to the term %d, %q", at, i, e.Name)
			}
		}
	}
}

func TestTrivialBindingsAreInvalid(t *testing.T) {
	for text, want := range map[string]bool{
		"X:=X": false, "X0:=X0": false, "Zab9:=Zab9": false, "X:=Y;Y:=Y": false, "X:=X;Y:=X": false, "A:=a;X:=X;Z:=a": false,
		"X:=f(X)": true, "X:=X0": true, "X0:=X": true, "X:=Y;Y:=X": true, "X:=x": true, "A:=X;X:=Y;Y:=A": true,
	} {
		if impl.IsValidSubstitution(sub(text)) != want {
			t.Errorf("{%s} is valid: %v", text, !want)
		}
	}
	if impl.IsValidSubstitution(subOf(impl.Binding{Var: "X", Term: impl.Term{Name: "X", Args: []impl.Term{}}})) {
		t.Error("a trivial binding with an empty slice is valid")
	}
}

func TestApplySubstitution(t *testing.T) {
	for _, c := range [][3]string{
		{"", "g(X,Y)", "g(X,Y)"}, {"", "X", "X"}, {"", "a", "a"}, {"", "X = a", "X = a"},
		{"X:=a", "X", "a"}, {"X:=a", "Y", "Y"}, {"X:=a", "x", "x"}, {"X:=a", "f(b)", "f(b)"}, {"X:=a", "X0", "X0"}, {"X0:=a", "X", "X"}, {"X:=a", "f(X,X,Y,g(X))", "f(a,a,Y,g(a))"},
		{"X:=Y", "g(X,Y)", "g(Y,Y)"}, {"X:=Y;Y:=X", "g(X,Y)", "g(Y,X)"}, {"X:=Y;Y:=Z;Z:=X", "h(X,Y,Z)", "h(Y,Z,X)"},
		{"X:=f(X)", "X", "f(X)"}, {"X:=f(X)", "g(X,f(X))", "g(f(X),f(f(X)))"}, {"X:=f(Y);Y:=a", "g(X,Y)", "g(f(Y),a)"}, {"X:=a;Y:=f(X)", "g(X,Y)", "g(a,f(X))"}, {"X:=g(X,Y);Y:=g(Y,X)", "h(Y,X)", "h(g(Y,X),g(X,Y))"},
		{"X:=a", "X = X", "a = a"}, {"X:=f(Y);Y:=X", "X = Y", "f(Y) = X"}, {"X:=f(X)", "a = g(X)", "a = g(f(X))"}, {"Y:=a", "f(X) = X", "f(X) = X"},
		{"G:=a;G0:=b;G1:=c;G10:=d;Ga:=e", "f(f(G10,Ga),f(G1,G),G0,Gab)", "f(f(d,e),f(c,a),b,Gab)"},
	} {
		r, ok := impl.ApplySubstitution(sub(c[0]), expr(c[1]))
		if !same(r, expr(c[2])) || !ok {
			t.Errorf("applying {%s} to %s gives %s, %v", c[0], c[1], termText(r), ok)
		}
	}
}

func TestApplicationFollowsTheDefinition(t *testing.T) {
	for _, s := range substitutions() {
		for _, e := range patterns() {
			checkApply(t, s, e)
		}
	}
}

func TestLimitsOfApplication(t *testing.T) {
	for above := 1; above <= impl.MaxTermDepth; above++ {
		for inserted := 2; inserted <= impl.MaxTermDepth; inserted++ {
			s, e := subOf(bind("X", chain(inserted, node("X")))), chain(above, node("X"))
			fits := above+inserted-1 <= impl.MaxTermDepth
			r, ok := impl.ApplySubstitution(s, e)
			if ok != fits || ok && !same(r, chain(above+inserted-1, node("X"))) || !ok && !isZero(r) {
				t.Errorf("the depths %d and %d: %v, %v", above, inserted, r, ok)
			}
			if above > 1 {
				equality := node("=", node("a"), e.Args[0])
				r, ok = impl.ApplySubstitution(s, equality)
				if ok != fits || ok && !same(r, node("=", node("a"), chain(above+inserted-2, node("X")))) || !ok && !isZero(r) {
					t.Errorf("the depths %d and %d of an equality: %v, %v", above, inserted, r, ok)
				}
			}
		}
	}
	for other := 1; other < impl.MaxTermSize-1; other++ {
		for inserted := 1; inserted <= impl.MaxTermSize; inserted++ {
			s, fits := subOf(bind("X", bush(inserted))), 1+other+inserted <= impl.MaxTermSize
			for _, name := range []string{"f", "="} {
				r, ok := impl.ApplySubstitution(s, node(name, bush(other), node("X")))
				if ok != fits || ok && !same(r, node(name, bush(other), bush(inserted))) || !ok && !isZero(r) {
					t.Errorf("the sizes %d and %d below %s: %v, %v", other, inserted, name, r, ok)
				}
			}
		}
	}
	for inserted := 1; inserted <= impl.MaxTermSize; inserted++ {
		s := subOf(bind("X", bush(inserted)))
		checkApply(t, s, expr("h(X,X,X,X)"))
		checkApply(t, s, leaves(slices.Repeat([]impl.Term{node("X")}, 22)...))
		checkApply(t, s, expr("g(X,X)"))
		checkApply(t, s, expr("X = X"))
		checkApply(t, s, expr("X"))
	}
}

func TestComposeSubstitutions(t *testing.T) {
	for _, c := range [][3]string{
		{"", "", ""}, {"", "X:=a", "X:=a"}, {"X:=a", "", "X:=a"}, {"X:=a", "X:=b", "X:=a"}, {"X:=a", "Y:=b", "X:=a;Y:=b"}, {"Y:=b", "X:=a", "X:=a;Y:=b"},
		// Bindings become trivial.
		{"X:=Y", "Y:=X", "Y:=X"}, {"Y:=X", "X:=Y", "X:=Y"}, {"X:=Y;Y:=X", "X:=Y;Y:=X", ""}, {"X:=Y;Y:=Z;Z:=X", "X:=Z;Y:=X;Z:=Y", ""}, {"X:=Y;Y:=Z;Z:=X", "X:=Y;Y:=Z;Z:=X", "X:=Z;Y:=X;Z:=Y"},
		// A trivial binding still rules out the binding of u for its variable.
		{"X:=Y", "X:=a;Y:=X", "Y:=X"}, {"X:=Y", "X:=Z;Y:=X", "Y:=X"}, {"Y:=X", "X:=Y;Y:=b", "X:=Y"}, {"X:=Y;Y:=X", "X:=Y;Y:=X;Z:=c", "Z:=c"}, {"A:=B;M:=A", "A:=M;B:=A;M:=a", "B:=A"}, {"X:=Y;Z:=Y", "X:=b;Y:=X;Z:=c", "Y:=X;Z:=X"},
		// Both bind a variable.
		{"X:=f(X)", "X:=a", "X:=f(a)"}, {"X:=f(X)", "X:=f(X)", "X:=f(f(X))"}, {"X:=g(X,Y)", "X:=Y;Y:=X", "X:=g(Y,X);Y:=X"}, {"X:=Y", "X:=a;Y:=b", "X:=b;Y:=b"}, {"X:=a;Y:=X", "X:=c;Y:=d", "X:=a;Y:=c"},
		// The bindings of u are not applied to each other, nor those of s to the terms of u.
		{"", "X:=f(Y);Y:=a", "X:=f(Y);Y:=a"}, {"X:=a", "Y:=f(X)", "X:=a;Y:=f(X)"}, {"X:=f(Y)", "Y:=g(X,Y)", "X:=f(g(X,Y));Y:=g(X,Y)"}, {"X:=f(Z)", "Y:=a;Z:=Y", "X:=f(Y);Y:=a;Z:=Y"},
		{"B:=X;D:=a;X:=f(B)", "A:=X;B:=c;C:=A;X:=D;Z:=a", "A:=X;B:=D;C:=A;D:=a;X:=f(c);Z:=a"}, {"G10:=a", "G:=b;G0:=c;G1:=d;G2:=e;Ga:=f", "G:=b;G0:=c;G1:=d;G10:=a;G2:=e;Ga:=f"},
	} {
		r, ok := impl.ComposeSubstitutions(sub(c[0]), sub(c[1]))
		if !sameSub(r, sub(c[2])) || !ok {
			t.Errorf("composing {%s} and {%s} gives {%s}, %v", c[0], c[1], subText(r), ok)
		}
	}
}

// smallPairs lists the valid substitutions that bind at most X and Y, to small terms.
func smallPairs() []impl.Substitution {
	list := []impl.Substitution{}
	for _, x := range smallExpressions(3) {
		for _, y := range smallExpressions(3) {
			s, _ := fromMap(map[string]impl.Term{"X": x, "Y": y})
			list = append(list, s)
		}
	}
	return list
}

// smallExpressions lists the terms over X, Y, a, f and g of at most the given size.
func smallExpressions(size int) []impl.Term {
	if size < 1 {
		return nil
	}
	list := nodes("X", "Y", "a")
	for _, arg := range smallExpressions(size - 1) {
		list = append(list, node("f", arg))
		n, _ := sizeAndDepth(arg)
		for _, next := range smallExpressions(size - 1 - n) {
			list = append(list, node("g", arg, next))
		}
	}
	return list
}

func TestCompositionFollowsTheDefinition(t *testing.T) {
	if count := len(smallExpressions(3)); count != 18 {
		t.Fatal("the number of small terms is", count)
	}
	for _, list := range [][]impl.Substitution{substitutions(), smallPairs()} {
		for _, s := range list {
			for _, u := range list {
				checkCompose(t, s, u)
			}
		}
	}
}

func TestApplyingACompositionIsApplyingBoth(t *testing.T) {
	list := substitutions()
	for _, s := range list {
		for _, u := range list {
			c, ok := impl.ComposeSubstitutions(s, u)
			if !ok {
				continue
			}
			for _, e := range patterns() {
				between, fine := impl.ApplySubstitution(s, e)
				want, exists := impl.ApplySubstitution(u, between)
				exists = exists && fine
				r, ok := impl.ApplySubstitution(c, e)
				if ok != exists || ok && !same(r, want) || !ok && !isZero(r) {
					t.Fatalf("applying {%s} and {%s} to %s gives %s, but their composition gives %s, %v", subText(s), subText(u), termText(e), termText(want), termText(r), ok)
				}
			}
		}
	}
}

// renamings lists the substitutions of X, Y and Z by X, Y, Z and a.
func renamings() []impl.Substitution {
	list := []impl.Substitution{}
	values := nodes("X", "Y", "Z", "a")
	for _, x := range values {
		for _, y := range values {
			for _, z := range values {
				s, _ := fromMap(map[string]impl.Term{"X": x, "Y": y, "Z": z})
				list = append(list, s)
			}
		}
	}
	return list
}

func TestCompositionIsAssociative(t *testing.T) {
	for _, list := range [][]impl.Substitution{substitutions(), renamings()} {
		compared := 0
		for _, s := range list {
			for _, u := range list {
				su, ok := impl.ComposeSubstitutions(s, u)
				if !ok {
					continue
				}
				for _, v := range list {
					uv, ok := impl.ComposeSubstitutions(u, v)
					left, leftOk := impl.ComposeSubstitutions(su, v)
					right, rightOk := impl.ComposeSubstitutions(s, uv)
					if !ok || !leftOk || !rightOk {
						continue
					}
					compared++
					if !sameSub(left, right) {
						t.Fatalf("{%s}, {%s} and {%s}: {%s} and {%s}", subText(s), subText(u), subText(v), subText(left), subText(right))
					}
				}
			}
		}
		if compared < 30000 {
			t.Errorf("only %d compositions of three exist", compared)
		}
	}
}

func TestEmptySubstitutionIsNeutral(t *testing.T) {
	for _, s := range append(substitutions(), smallPairs()...) {
		for _, empty := range []impl.Substitution{{}, {Bindings: []impl.Binding{}}} {
			left, leftOk := impl.ComposeSubstitutions(empty, s)
			right, rightOk := impl.ComposeSubstitutions(s, empty)
			if !leftOk || !rightOk || !sameSub(left, s) || !sameSub(right, s) {
				t.Errorf("{%s} becomes {%s} and {%s}", subText(s), subText(left), subText(right))
			}
		}
	}
	for _, e := range patterns() {
		checkApply(t, impl.Substitution{}, e)
	}
}

func TestLimitOfComposedBindings(t *testing.T) {
	all := many(24, node("a")).Bindings
	for first := range impl.MaxBindings + 1 {
		for from := range impl.MaxBindings {
			for count := range impl.MaxBindings + 1 {
				s, u := subOf(all[:first]...), subOf(all[from:from+count]...)
				checkCompose(t, s, u)
				checkCompose(t, u, s)
			}
		}
	}
	// Of 13 variables one is bound to itself in the end, so that 12 bindings are left.
	s, u := rotation(13), many(1, node("V22"))
	s.Bindings = s.Bindings[:12]
	u.Bindings[0] = bind("V22", node("V21"))
	c, ok := impl.ComposeSubstitutions(s, u)
	if !ok || len(c.Bindings) != 12 || slices.ContainsFunc(c.Bindings, func(b impl.Binding) bool { return b.Var == "V21" }) {
		t.Errorf("12 bindings are left: {%s}, %v", subText(c), ok)
	}
	c, ok = impl.ComposeSubstitutions(s, subOf(bind("V22", node("V20"))))
	if ok || !isEmptySub(c) {
		t.Errorf("13 bindings are left: {%s}, %v", subText(c), ok)
	}
	if c, ok := impl.ComposeSubstitutions(rotation(12), many(12, node("a"))); !sameSub(c, many(12, node("a"))) || !ok {
		t.Errorf("both bind the same variables: {%s}, %v", subText(c), ok)
	}
}

func TestLimitsOfComposedTerms(t *testing.T) {
	for above := 2; above <= impl.MaxTermDepth; above++ {
		for inserted := 2; inserted <= impl.MaxTermDepth; inserted++ {
			s, u := subOf(bind("Z", chain(above, node("X")))), subOf(bind("X", chain(inserted, node("Z"))))
			c, ok := impl.ComposeSubstitutions(s, u)
			fits := above+inserted-1 <= impl.MaxTermDepth
			if ok != fits || ok && !sameSub(c, subOf(bind("X", chain(inserted, node("Z"))), bind("Z", chain(above+inserted-1, node("Z"))))) || !ok && !isEmptySub(c) {
				t.Errorf("the depths %d and %d: {%s}, %v", above, inserted, subText(c), ok)
			}
		}
	}
	for other := 1; other < impl.MaxTermSize-1; other++ {
		for inserted := 1; inserted <= impl.MaxTermSize; inserted++ {
			s, u := subOf(bind("A", node("a")), bind("Y", node("f", bush(other), node("X")))), subOf(bind("X", bush(inserted)))
			c, ok := impl.ComposeSubstitutions(s, u)
			if ok != (1+other+inserted <= impl.MaxTermSize) || !ok && !isEmptySub(c) {
				t.Errorf("the sizes %d and %d: {%s}, %v", other, inserted, subText(c), ok)
			}
			checkCompose(t, s, u)
		}
	}
	// One term of many that is too great is enough, wherever it is.
	for at := range impl.MaxBindings {
		s := many(impl.MaxBindings, node("X"))
		s.Bindings[at].Term = node("f", node("X"))
		checkCompose(t, s, subOf(bind("X", chain(8, node("a")))))
		checkCompose(t, s, subOf(bind("X", bush(30))))
	}
}

func TestRestrictSubstitution(t *testing.T) {
	s := sub("A:=X;X:=f(Y);Y:=a;Z:=A")
	for _, c := range []struct {
		variables []string
		want      string
	}{
		{nil, ""}, {[]string{}, ""}, {[]string{"X"}, "X:=f(Y)"}, {[]string{"B"}, ""}, {[]string{"B", "V", "X0"}, ""}, {[]string{"B", "Y", "C"}, "Y:=a"},
		{[]string{"A", "Z"}, "A:=X;Z:=A"}, {[]string{"Z", "A"}, "A:=X;Z:=A"}, {[]string{"Z", "Y", "X", "A"}, "A:=X;X:=f(Y);Y:=a;Z:=A"}, {[]string{"A", "X", "Y", "Z"}, "A:=X;X:=f(Y);Y:=a;Z:=A"},
		{[]string{"X", "X"}, "X:=f(Y)"}, {[]string{"Y", "X", "Y", "Y", "X", "B", "B"}, "X:=f(Y);Y:=a"}, {[]string{"Z", "Z", "A", "Z", "A", "A"}, "A:=X;Z:=A"},
		// The document states no condition on the names.
		{[]string{"", "a", "f", "x", "=", "true", "X ", " X", "XY", "Xabcd", "\xff"}, ""}, {[]string{"", "X", "a", "not a name", "A"}, "A:=X;X:=f(Y)"}, {[]string{strings.Repeat("X", 5000), "Z"}, "Z:=A"},
		{slices.Repeat([]string{"Y", "Q"}, 100000), "Y:=a"},
	} {
		r, ok := impl.RestrictSubstitution(s, c.variables)
		if !sameSub(r, sub(c.want)) || !ok {
			t.Errorf("restricting to %q gives {%s}, %v", c.variables[:min(10, len(c.variables))], subText(r), ok)
		}
		if r, ok := impl.RestrictSubstitution(impl.Substitution{}, c.variables); !isEmptySub(r) || !ok {
			t.Errorf("restricting the empty substitution gives {%s}, %v", subText(r), ok)
		}
	}
}

func TestRestrictionKeepsTheEffect(t *testing.T) {
	for _, s := range substitutions() {
		for _, e := range patterns() {
			list := variablesOf(e)
			slices.Reverse(list)
			r, ok := impl.RestrictSubstitution(s, list)
			wanted := slices.DeleteFunc(slices.Clone(s.Bindings), func(b impl.Binding) bool { return !slices.Contains(list, b.Var) })
			if !ok || !sameSub(r, subOf(wanted...)) || !impl.IsValidSubstitution(r) {
				t.Fatalf("restricting {%s} to %q gives {%s}, %v", subText(s), list, subText(r), ok)
			}
			before, fine := impl.ApplySubstitution(s, e)
			after, ok := impl.ApplySubstitution(r, e)
			if ok != fine || !same(before, after) {
				t.Fatalf("restricting {%s} to %q changes %s", subText(s), list, termText(e))
			}
		}
	}
}

func TestIsIdempotent(t *testing.T) {
	for text, want := range map[string]bool{
		"": true, "X:=a": true, "X:=Y": true, "X:=Z;Y:=Z": true, "X:=f(Z);Y:=g(Z,a)": true, "X:=X0": true, "X0:=X": true, "X:=x": true, "X:=g(a,f(X0))": true,
		"X:=f(X)": false, "X:=f(Y);Y:=a": false, "X:=a;Y:=f(X)": false, "X:=Y;Y:=X": false, "X:=Y;Y:=Z": false, "X:=Z;Y:=X": false, "X:=g(a,g(a,X))": false, "A:=a;B:=b;C:=h(a,b,c,A)": false,
		"A:=h(a,b,c,Z);B:=b;Z:=a": false, "A:=f(B,C,D,E);F:=g(B);G:=g(f(C))": true, "A:=f(B,C,D,E);F:=g(B);G:=g(f(F))": false, "G:=G1;G0:=G10": true, "G:=G1;G0:=G10;G10:=G": false,
	} {
		if yes, ok := impl.IsIdempotent(sub(text)); yes != want || !ok {
			t.Errorf("IsIdempotent({%s}) = %v, %v", text, yes, ok)
		}
	}
	for _, s := range slices.Concat(substitutions(), smallPairs(), renamings()) {
		twice, exists := plainCompose(s, s)
		if yes, ok := impl.IsIdempotent(s); yes != (exists && sameSub(twice, s)) || !ok {
			t.Errorf("IsIdempotent({%s}) = %v, %v", subText(s), yes, ok)
		}
	}
	for at := range impl.MaxBindings {
		for in := range impl.MaxBindings {
			s := many(impl.MaxBindings, node("g", node("X"), node("a")))
			s.Bindings[in].Term = node("g", node("X"), node("f", node(s.Bindings[at].Var)))
			if yes, ok := impl.IsIdempotent(s); yes || !ok {
				t.Errorf("IsIdempotent({%s}) = %v, %v", subText(s), yes, ok)
			}
		}
	}
}

func TestIsRenaming(t *testing.T) {
	for text, want := range map[string]bool{
		"": true, "X:=Y": true, "X:=Y;Y:=X": true, "X:=Y;Y:=Z": true, "X:=Y;Y:=Z;Z:=X": true, "X:=A;Y:=B;Z:=C": true, "X:=X0;X0:=X": true,
		"X:=a": false, "X:=x": false, "X:=f(Y)": false, "X:=Z;Y:=Z": false, "X:=Z;Y:=A;Z:=A": false, "A:=Z;B:=C;D:=E;F:=Z": false, "X:=Y;Y:=a": false, "X:=a;Y:=X": false, "X:=Y;Z:=f(Z)": false, "X:=Y;Z:=Y": false, "W:=X;X:=Y;Y:=W;Z:=W": false,
	} {
		if yes, ok := impl.IsRenaming(sub(text)); yes != want || !ok {
			t.Errorf("IsRenaming({%s}) = %v, %v", text, yes, ok)
		}
	}
	for _, s := range slices.Concat(substitutions(), smallPairs(), renamings()) {
		seen, want := map[string]bool{}, true
		for _, b := range s.Bindings {
			want = want && 'A' <= b.Term.Name[0] && b.Term.Name[0] <= 'Z' && !seen[b.Term.Name]
			seen[b.Term.Name] = true
		}
		if yes, ok := impl.IsRenaming(s); yes != want || !ok {
			t.Errorf("IsRenaming({%s}) = %v, %v", subText(s), yes, ok)
		}
	}
}

func TestMatchTerms(t *testing.T) {
	for _, c := range [][3]string{
		{"X", "a", "X:=a"}, {"X", "f(a,Y)", "X:=f(a,Y)"}, {"X", "Y", "X:=Y"}, {"X", "X", ""}, {"X", "f(X)", "X:=f(X)"}, {"a", "a", ""}, {"f(a)", "f(a)", ""}, {"f(X)", "f(X)", ""},
		{"g(X,X)", "g(a,a)", "X:=a"}, {"g(X,X)", "g(f(Y),f(Y))", "X:=f(Y)"}, {"g(X,X)", "g(X,X)", ""}, {"g(X,X)", "g(Y,Y)", "X:=Y"}, {"g(X,X)", "g(f(X),f(X))", "X:=f(X)"},
		{"g(X,Y)", "g(Y,X)", "X:=Y;Y:=X"}, {"g(Y,X)", "g(a,b)", "X:=b;Y:=a"}, {"g(X,Y)", "g(X,a)", "Y:=a"}, {"g(X,Y)", "g(a,Y)", "X:=a"}, {"g(X,Y)", "g(Y,Y)", "X:=Y"}, {"g(X,Y)", "g(X,X)", "Y:=X"}, {"g(X,Y)", "g(f(Y),f(X))", "X:=f(Y);Y:=f(X)"},
		{"h(X,g(Y,X),Z)", "h(f(Z),g(X,f(Z)),a)", "X:=f(Z);Y:=X;Z:=a"}, {"h(Z,Y,X,Z)", "h(a,b,c,a)", "X:=c;Y:=b;Z:=a"}, {"h(X,Y,Z,X)", "h(Y,Z,X,Y)", "X:=Y;Y:=Z;Z:=X"}, {"f(G10,G2,G,Ga)", "f(a,b,c,d)", "G:=c;G10:=a;G2:=b;Ga:=d"},
		{"X = Y", "a = b", "X:=a;Y:=b"}, {"X = X", "a = a", "X:=a"}, {"X = Y", "Y = X", "X:=Y;Y:=X"}, {"X = Y", "X = Y", ""}, {"f(X) = a", "f(f(X)) = a", "X:=f(X)"}, {"a = b", "a = b", ""}, {"X = f(Y)", "g(Y,Z) = f(X)", "X:=g(Y,Z);Y:=X"},
	} {
		m, ok := impl.MatchTerms(expr(c[0]), expr(c[1]))
		if !sameSub(m, sub(c[2])) || !ok {
			t.Errorf("matching %s with %s gives {%s}, %v", c[0], c[1], subText(m), ok)
		}
	}
}

func TestMatchTermsFails(t *testing.T) {
	for _, c := range [][2]string{
		{"a", "b"}, {"a", "X"}, {"f(a)", "X"}, {"f(X)", "X"}, {"f(a)", "f(X)"}, {"f(X)", "g(X)"}, {"f(X)", "f(X,X)"}, {"f(X,X)", "f(X)"}, {"f", "f(X)"}, {"f(X)", "f"}, {"f(a)", "f(b)"}, {"g(X,a)", "g(a,X)"}, {"g(a,X)", "g(X,a)"},
		// A variable that is bound twice, among them one that is bound to itself first or last.
		{"g(X,X)", "g(a,b)"}, {"g(X,X)", "g(X,a)"}, {"g(X,X)", "g(a,X)"}, {"g(X,X)", "g(X,Y)"}, {"g(X,X)", "g(Y,X)"}, {"h(X,Y,X)", "h(X,a,a)"}, {"g(X,f(X))", "g(X,f(f(X)))"}, {"g(X,X)", "g(f(a),f(b))"}, {"g(X,X)", "g(f(X),f(Y))"}, {"h(X,X,X,X)", "h(a,a,a,b)"}, {"g(X,X)", "g(f(a),f(a,a))"},
		// An equality is no term, and no other expression is an equality.
		{"X", "a = b"}, {"X", "X = X"}, {"X = Y", "f(a,b)"}, {"f(X,Y)", "a = b"}, {"X = Y", "X"}, {"X = Y", "a"}, {"a", "a = a"}, {"X = X", "a = b"}, {"X = X", "X = Y"}, {"X = X", "X = a"}, {"f(X) = Y", "X = Y"}, {"a = b", "b = a"}, {"a = X", "X = a"},
	} {
		if m, ok := impl.MatchTerms(expr(c[0]), expr(c[1])); !isEmptySub(m) || ok {
			t.Errorf("matching %s with %s gives {%s}, %v", c[0], c[1], subText(m), ok)
		}
		checkMatch(t, expr(c[0]), expr(c[1]))
	}
}

func TestMatchesFollowTheDefinition(t *testing.T) {
	list := patterns()
	for _, pattern := range list {
		for _, e := range list {
			checkMatch(t, pattern, e)
		}
	}
}

func TestApplicationsAreMatched(t *testing.T) {
	for _, s := range append(substitutions(), smallPairs()...) {
		for _, pattern := range patterns() {
			e, ok := impl.ApplySubstitution(s, pattern)
			if !ok {
				continue
			}
			// The match is the only one, so it is the substitution itself on the variables of the pattern.
			want, _ := impl.RestrictSubstitution(s, variablesOf(pattern))
			if m, ok := impl.MatchTerms(pattern, e); !sameSub(m, want) || !ok {
				t.Fatalf("matching %s with %s gives {%s}, %v", termText(pattern), termText(e), subText(m), ok)
			}
		}
	}
}

func TestMatchesAreUnique(t *testing.T) {
	list := smallExpressions(4)
	for _, text := range []string{"X = Y", "Y = X", "X = X", "a = X", "X = a", "f(X) = Y", "f(Y) = X", "f(X) = f(Y)", "a = a", "f(a) = a"} {
		list = append(list, expr(text))
	}
	small := smallExpressions(3)
	for _, pattern := range list {
		for _, e := range list {
			m, ok := impl.MatchTerms(pattern, e)
			found := []impl.Substitution{}
			for _, x := range append(slices.Clone(small), e) {
				for _, y := range append(slices.Clone(small), e) {
					values := map[string]impl.Term{"X": x, "Y": y}
					if !same(plainApply(values, pattern), e) {
						continue
					}
					s, fine := fromMap(values)
					isForeign := func(b impl.Binding) bool { return !slices.Contains(variablesOf(pattern), b.Var) }
					isKnown := func(other impl.Substitution) bool { return sameSub(s, other) }
					if fine && !slices.ContainsFunc(s.Bindings, isForeign) && !slices.ContainsFunc(found, isKnown) {
						found = append(found, s)
					}
				}
			}
			if len(found) > 1 || ok != (len(found) == 1) || ok && !sameSub(m, found[0]) || !ok && !isEmptySub(m) {
				t.Fatalf("matching %s with %s gives {%s}, %v instead of %d matches", termText(pattern), termText(e), subText(m), ok, len(found))
			}
		}
	}
}

func TestLimitOfMatchedBindings(t *testing.T) {
	for count := 1; count <= 22; count++ {
		own := nodes(names(count)...)
		pattern := leaves(own...)
		for kept := range count + 1 {
			// All variables but the first ones are matched with something else.
			list := slices.Clone(own)
			for i := kept; i < count; i++ {
				list[i] = node("f", node("V10"))
				if !fitsLimits(leaves(list...)) {
					list[i] = node("a")
				}
			}
			m, ok := impl.MatchTerms(pattern, leaves(list...))
			fits := count-kept <= impl.MaxBindings
			if ok != fits || ok && len(m.Bindings) != count-kept || !ok && !isEmptySub(m) {
				t.Errorf("%d variables of which %d are kept: {%s}, %v", count, kept, subText(m), ok)
			}
			checkMatch(t, pattern, leaves(list...))
		}
		a := leaves(slices.Repeat([]impl.Term{node("a")}, count)...)
		if yes, ok := impl.IsInstance(a, pattern); yes != (count <= impl.MaxBindings) || !ok {
			t.Errorf("IsInstance of %d variables: %v, %v", count, yes, ok)
		}
	}
	for _, e := range []impl.Term{bush(30), chain(8, node("a")), deepAndWide(), chain(8, node("X"))} {
		checkMatch(t, node("X"), e)
		checkMatch(t, e, e)
		checkMatch(t, node("f", node("X")), e)
	}
}

func TestIsInstance(t *testing.T) {
	for _, c := range []struct {
		e, pattern string
		want       bool
	}{
		{"g(a,a)", "g(X,X)", true}, {"g(X,X)", "g(a,a)", false}, {"a", "X", true}, {"X", "a", false}, {"X", "Y", true}, {"X", "X", true}, {"g(X,X)", "g(X,Y)", true}, {"g(X,Y)", "g(X,X)", false},
		{"f(X)", "X", true}, {"X", "f(X)", false}, {"a = b", "X = Y", true}, {"X = Y", "a = b", false}, {"a = b", "X", false}, {"X", "a = b", false}, {"X = X", "X = Y", true}, {"X = Y", "X = X", false},
	} {
		if yes, ok := impl.IsInstance(expr(c.e), expr(c.pattern)); yes != c.want || !ok {
			t.Errorf("IsInstance(%s, %s) = %v, %v", c.e, c.pattern, yes, ok)
		}
	}
}

func TestAreVariants(t *testing.T) {
	for _, c := range []struct {
		a, b string
		want bool
	}{
		{"X", "X", true}, {"X", "Y", true}, {"a", "a", true}, {"a", "b", false}, {"a", "X", false}, {"g(X,Y)", "g(Z,X)", true}, {"g(X,Y)", "g(Y,X)", true}, {"g(X,X)", "g(Y,Y)", true}, {"h(X,Y,Z,X)", "h(Y,Z,X,Y)", true}, {"g(X,f(Y))", "g(Y,f(X))", true},
		// Only one of them is an instance of the other one.
		{"g(X,Y)", "g(X,X)", false}, {"g(X,Y)", "g(Z,Z)", false}, {"X", "f(X)", false}, {"X", "a", false}, {"g(X,a)", "g(X,Y)", false}, {"g(X,Y)", "g(f(X),Y)", false}, {"X = Y", "X = X", false}, {"X = Y", "a = X", false},
		// None of them is.
		{"g(X,a)", "g(a,X)", false}, {"g(X,X)", "g(X,a)", false}, {"f(X)", "f(X,Y)", false}, {"h(X,X,Y)", "h(X,Y,Y)", false}, {"X", "X = X", false}, {"f(X,Y)", "X = Y", false},
		{"X = Y", "Y = X", true}, {"X = f(Y)", "A = f(B)", true}, {"f(X) = X", "f(Z) = Z", true}, {"a = b", "a = b", true}, {"a = b", "b = a", false}, {"X = a", "a = X", false},
	} {
		yes, ok := impl.AreVariants(expr(c.a), expr(c.b))
		back, fine := impl.AreVariants(expr(c.b), expr(c.a))
		if yes != c.want || !ok || back != c.want || !fine {
			t.Errorf("AreVariants of %s and %s: %v, %v and %v, %v", c.a, c.b, yes, ok, back, fine)
		}
	}
}

// canonical replaces the variables of an expression in the order of their first occurrence.
func canonical(e impl.Term, seen map[string]string) impl.Term {
	result := impl.Term{Name: e.Name}
	if 'A' <= e.Name[0] && e.Name[0] <= 'Z' {
		if seen[e.Name] == "" {
			seen[e.Name] = "C" + strconv.Itoa(len(seen))
		}
		result.Name = seen[e.Name]
	}
	for _, arg := range e.Args {
		result.Args = append(result.Args, canonical(arg, seen))
	}
	return result
}

func TestVariantsFollowTheDefinition(t *testing.T) {
	list := append(patterns(), smallExpressions(4)...)
	count := 0
	for _, a := range list {
		for _, b := range list {
			// More than MaxBindings variables that are renamed are no match.
			_, fits := plainMatch(a, b)
			want := fits && same(canonical(a, map[string]string{}), canonical(b, map[string]string{}))
			if yes, ok := impl.AreVariants(a, b); yes != want || !ok {
				t.Fatalf("AreVariants(%s, %s) = %v, %v", termText(a), termText(b), yes, ok)
			}
			if want && !same(a, b) {
				count++
			}
		}
	}
	if count < 200 {
		t.Error("only", count, "variants")
	}
}

func TestRenamedExpressionsAreVariants(t *testing.T) {
	for _, s := range slices.Concat(substitutions(), renamings()) {
		for _, e := range patterns() {
			r, ok := impl.RestrictSubstitution(s, variablesOf(e))
			renamed, exists := impl.ApplySubstitution(r, e)
			if !ok || !exists {
				continue
			}
			// A renaming may also make a variable equal to one that it leaves as it is.
			isRenaming, _ := impl.IsRenaming(r)
			want := isRenaming && len(variablesOf(renamed)) == len(variablesOf(e))
			if yes, ok := impl.AreVariants(e, renamed); yes != want || !ok {
				t.Fatalf("AreVariants(%s, %s) = %v, %v", termText(e), termText(renamed), yes, ok)
			}
		}
	}
}

func TestFormatSubstitution(t *testing.T) {
	for _, text := range []string{
		"", "X:=a", "X:=Y", "X:=f(Y);Y:=a", "A:=X;X:=f(A,Z)", "G:=a;G0:=b;G1:=a(X);G10:=f(Ga);Ga:=G", "X:=g(a,f(X))", "Zab9:=a_9z__(V,W)",
	} {
		if s, ok := impl.FormatSubstitution(sub(text)); s != text || !ok {
			t.Errorf("FormatSubstitution of {%s} = %q, %v", text, s, ok)
		}
	}
	for _, s := range substitutions() {
		text, ok := impl.FormatSubstitution(s)
		if text != subText(s) || !ok || !sameSub(sub(text), s) {
			t.Errorf("FormatSubstitution of {%s} = %q, %v", subText(s), text, ok)
		}
	}
	s := impl.Substitution{}
	for i, name := range names(impl.MaxBindings) {
		s.Bindings = append(s.Bindings, bind(name+"x", greatLiteral(i%10).Atom))
	}
	if text, ok := impl.FormatSubstitution(s); text != subText(s) || !ok || len(text) < 2500 {
		t.Errorf("FormatSubstitution of a great substitution has %d bytes, %v", len(text), ok)
	}
}

// invalidSubstitutions lists Substitutions that are not valid, for each reason and at each place.
func invalidSubstitutions() []impl.Substitution {
	list := []impl.Substitution{
		subOf(impl.Binding{}), {Bindings: make([]impl.Binding, 12)}, {Bindings: make([]impl.Binding, 13)}, {Bindings: make([]impl.Binding, 1000000)}, many(13, node("a")), rotation(13), many(80, node("a")),
	}
	for _, text := range []string{
		"X:=X", "X:=Y;Y:=Y", "X:=X;Y:=a", "A:=a;X:=X;Z:=a", "Y:=a;X:=a", "X:=a;X:=a", "X:=a;X:=b", "A:=a;Z:=a;Y:=a", "A:=a;B:=a;B:=b;C:=a", "B:=a;A:=a;C:=a",
		"x:=a", ":=a", "a:=a", "f:=X", "true:=a", "XY:=a", "Xabcd:=a", "X_:=a", "X :=a", " X:=a", "=:=a", "f(X):=a", "A:=a;b:=b", "A:=a;:=a", "1:=a", "\xff:=a", "X\x00:=a",
		"X:=a = b", "X:=X = X", "A:=a;X:=a = b", "X:=Y = Z;Z:=a",
	} {
		list = append(list, sub(text))
	}
	for _, e := range append(invalidTerms(), unboundedTerms()...) {
		list = append(list, subOf(bind("X", e)), subOf(bind("A", node("a")), bind("X", e)), subOf(bind("X", e), bind("Z", node("a"))))
	}
	return list
}

func TestInvalidSubstitutionsGiveZeroValues(t *testing.T) {
	for i, s := range invalidSubstitutions() {
		if impl.IsValidSubstitution(s) {
			t.Error("valid:", i)
		}
		for _, e := range []impl.Term{node("X"), node("a"), expr("f(X,Y)"), expr("X = a"), node("")} {
			if r, ok := impl.ApplySubstitution(s, e); !isZero(r) || ok {
				t.Error("ApplySubstitution:", i, r, ok)
			}
		}
		for _, u := range []impl.Substitution{{}, sub("X:=a"), sub("Y:=X"), s} {
			if c, ok := impl.ComposeSubstitutions(s, u); !isEmptySub(c) || ok {
				t.Error("ComposeSubstitutions:", i, ok)
			}
			if c, ok := impl.ComposeSubstitutions(u, s); !isEmptySub(c) || ok {
				t.Error("ComposeSubstitutions with it:", i, ok)
			}
		}
		for _, list := range [][]string{nil, {"X"}, {"A", "B", "Y", "Z"}, {"Q"}} {
			if r, ok := impl.RestrictSubstitution(s, list); !isEmptySub(r) || ok {
				t.Error("RestrictSubstitution:", i, ok)
			}
		}
		if yes, ok := impl.IsIdempotent(s); yes || ok {
			t.Error("IsIdempotent:", i, yes, ok)
		}
		if yes, ok := impl.IsRenaming(s); yes || ok {
			t.Error("IsRenaming:", i, yes, ok)
		}
		if text, ok := impl.FormatSubstitution(s); text != "" || ok {
			t.Error("FormatSubstitution:", i, text, ok)
		}
	}
}

func TestOtherTermsGiveZeroValues(t *testing.T) {
	for i, e := range append(invalidTerms(), unboundedTerms()...) {
		for _, s := range []impl.Substitution{{}, sub("X:=a"), many(12, node("a"))} {
			if r, ok := impl.ApplySubstitution(s, e); !isZero(r) || ok {
				t.Error("ApplySubstitution:", i, e.Name, r, ok)
			}
		}
		for _, other := range []impl.Term{node("X"), node("a"), expr("f(a,X)"), expr("X = Y"), e} {
			for _, pair := range [][2]impl.Term{{e, other}, {other, e}} {
				if m, ok := impl.MatchTerms(pair[0], pair[1]); !isEmptySub(m) || ok {
					t.Error("MatchTerms:", i, e.Name, ok)
				}
				if yes, ok := impl.IsInstance(pair[0], pair[1]); yes || ok {
					t.Error("IsInstance:", i, e.Name, yes, ok)
				}
				if yes, ok := impl.AreVariants(pair[0], pair[1]); yes || ok {
					t.Error("AreVariants:", i, e.Name, yes, ok)
				}
			}
		}
	}
}

// subWithRoom copies a substitution so that its lists have elements beyond their lengths. They
// would be bindings of the substitution.
func subWithRoom(s impl.Substitution) impl.Substitution {
	room := []impl.Binding{}
	for _, b := range s.Bindings {
		room = append(room, bind(b.Var, withRoom(b.Term)))
	}
	room = append(room, bind("Zz9", node("beyond")), bind("Zzz", node("beyond")))
	return subOf(room[:len(s.Bindings)]...)
}

// isKept reports whether r is still as subWithRoom has made it from s.
func isKept(r, s impl.Substitution) bool {
	beyond := r.Bindings[:len(r.Bindings)+2][len(r.Bindings):]
	return sameSub(r, s) && sameSub(subOf(beyond...), sub("Zz9:=beyond;Zzz:=beyond")) &&
		!slices.ContainsFunc(r.Bindings, func(b impl.Binding) bool { return !roomIsKept(b.Term) })
}

// spoilSub changes all memory of a substitution, also that beyond the lengths of its lists.
func spoilSub(s *impl.Substitution) {
	all := s.Bindings[:cap(s.Bindings)]
	for i := range all {
		spoil(&all[i].Term)
		all[i] = bind("Spoi", node("spoilt"))
	}
}

func TestSubstitutionArgumentsAreNotChanged(t *testing.T) {
	subs := substitutions()
	subs = append(subs, sub("Y:=a;X:=a"), sub("X:=a;X:=a"), sub("X:=X"), many(13, node("a")))
	list := append(patterns(), node("f", node("=", node("X"), node("X"))), bush(31))
	for i, s := range subs {
		u := subs[(i*7+3)%len(subs)]
		for j, e := range list {
			p := list[(j*5+i)%len(list)]
			first, second, pattern, other := subWithRoom(s), subWithRoom(u), withRoom(p), withRoom(e)
			variables := []string{"Z", "X", "A", "X", "V12", "beyond", "Zz9"}
			impl.IsValidSubstitution(first)
			impl.ApplySubstitution(first, other)
			impl.ComposeSubstitutions(first, second)
			impl.RestrictSubstitution(first, variables[:5])
			impl.IsIdempotent(first)
			impl.IsRenaming(first)
			impl.MatchTerms(pattern, other)
			impl.IsInstance(other, pattern)
			impl.AreVariants(pattern, other)
			impl.FormatSubstitution(first)
			if !isKept(first, s) || !isKept(second, u) || !same(pattern, p) || !same(other, e) || !roomIsKept(pattern) || !roomIsKept(other) {
				t.Fatalf("{%s}, {%s}, %s or %s is changed", subText(s), subText(u), termText(p), termText(e))
			}
			if !slices.Equal(variables, []string{"Z", "X", "A", "X", "V12", "beyond", "Zz9"}) {
				t.Fatalf("the list of variables is changed: %q", variables)
			}
		}
	}
}

func TestBindingsBeyondTheLengthAreNotRead(t *testing.T) {
	subs := substitutions()
	for _, s := range subs {
		room := subWithRoom(s)
		if !impl.IsValidSubstitution(room) {
			t.Errorf("{%s} is invalid with elements beyond the lengths", subText(s))
		}
		if text, ok := impl.FormatSubstitution(room); text != subText(s) || !ok {
			t.Errorf("{%s} becomes %q", subText(s), text)
		}
		checkApply(t, room, expr("g(Zz9,Zzz)"))
		if r, _ := impl.RestrictSubstitution(room, []string{"Zz9", "Zzz"}); !isEmptySub(r) && !slices.ContainsFunc(s.Bindings, func(b impl.Binding) bool { return b.Var[:2] == "Zz" }) {
			t.Errorf("{%s} is restricted to {%s}", subText(s), subText(r))
		}
		for _, u := range subs {
			c, ok := impl.ComposeSubstitutions(room, subWithRoom(u))
			if want, fits := plainCompose(s, u); ok != fits || ok && !sameSub(c, want) {
				t.Fatalf("composing {%s} and {%s} gives {%s}, %v", subText(s), subText(u), subText(c), ok)
			}
		}
	}
	for _, p := range patterns() {
		checkMatch(t, withRoom(p), p)
		checkMatch(t, p, withRoom(p))
		checkMatch(t, node("X"), withRoom(p))
	}
}

// checkNewTerm tests that the result of a call shares no memory with the arguments. The call
// returns its result and a function that changes its arguments.
func checkNewTerm(t *testing.T, call func() (r impl.Term, isKept func() bool, spoilArguments func())) {
	t.Helper()
	r, isKept, _ := call()
	want := clone(r)
	spoil(&r)
	if !isKept() {
		t.Fatalf("changing the result %s changes an argument", termText(want))
	}
	r, _, spoilArguments := call()
	spoilArguments()
	if !same(r, want) {
		t.Fatalf("changing the arguments changes the result %s", termText(want))
	}
}

func checkNewSub(t *testing.T, call func() (r impl.Substitution, isKept func() bool, spoilArguments func())) {
	t.Helper()
	r, isKept, _ := call()
	want := cloneSub(r)
	spoilSub(&r)
	if !isKept() {
		t.Fatalf("changing the result {%s} changes an argument", subText(want))
	}
	r, _, spoilArguments := call()
	spoilArguments()
	if !sameSub(r, want) {
		t.Fatalf("changing the arguments changes the result {%s}", subText(want))
	}
}

func TestSubstitutionResultsAreInNewMemory(t *testing.T) {
	for _, s := range substitutions() {
		for _, e := range patterns() {
			checkNewTerm(t, func() (impl.Term, func() bool, func()) {
				first, second := subWithRoom(s), withRoom(e)
				r, _ := impl.ApplySubstitution(first, second)
				return r, func() bool { return isKept(first, s) && same(second, e) && roomIsKept(second) }, func() { spoilSub(&first); spoil(&second) }
			})
		}
		for _, u := range substitutions() {
			checkNewSub(t, func() (impl.Substitution, func() bool, func()) {
				first, second := subWithRoom(s), subWithRoom(u)
				r, _ := impl.ComposeSubstitutions(first, second)
				return r, func() bool { return isKept(first, s) && isKept(second, u) }, func() { spoilSub(&first); spoilSub(&second) }
			})
		}
		for _, list := range [][]string{{}, {"X"}, {"Z", "Y", "X"}, names(12)} {
			checkNewSub(t, func() (impl.Substitution, func() bool, func()) {
				first, second := subWithRoom(s), slices.Clone(list)
				r, _ := impl.RestrictSubstitution(first, second)
				return r, func() bool { return isKept(first, s) && slices.Equal(second, list) }, func() { spoilSub(&first); clear(second) }
			})
		}
	}
	for _, p := range patterns() {
		for _, e := range patterns() {
			checkNewSub(t, func() (impl.Substitution, func() bool, func()) {
				first, second := withRoom(p), withRoom(e)
				r, _ := impl.MatchTerms(first, second)
				return r, func() bool { return same(first, p) && same(second, e) && roomIsKept(first) && roomIsKept(second) }, func() { spoil(&first); spoil(&second) }
			})
		}
	}
}

// partsOf lists pointers to the terms of the bindings, or to their arguments.
func partsOf(s impl.Substitution, depth int) []*impl.Term {
	parts := []*impl.Term{}
	for i := range s.Bindings {
		parts = append(parts, &s.Bindings[i].Term)
	}
	for ; depth > 0; depth-- {
		below := []*impl.Term{}
		for _, part := range parts {
			for i := range part.Args {
				below = append(below, &part.Args[i])
			}
		}
		parts = below
	}
	return parts
}

func TestPartsOfSubstitutionResultsAreSeparate(t *testing.T) {
	// The arguments use the same memory in many places.
	one := node("g", node("f", node("Z")), node("a"))
	two := node("g", one, one)
	s := subOf(bind("W", two), bind("X", one), bind("Y", one))
	u := subOf(bind("A", one), bind("B", one), bind("Z", two.Args[0]))
	for depth := range 3 {
		for _, e := range []impl.Term{expr("h(X,X,Y,W)"), node("h", one, one, two, node("X")), node("=", node("X"), node("X")), node("=", two, two), node("h", node("Y"), node("k", node("Y"), node("X")), node("W"))} {
			for _, sigma := range []impl.Substitution{s, {}, u} {
				r, ok := impl.ApplySubstitution(sigma, e)
				if !ok {
					continue
				}
				parts := partsOf(subOf(bind("X", r)), depth+1)
				checkSeparate(t, "ApplySubstitution", parts...)
			}
		}
		for _, pair := range [][2]impl.Substitution{{s, u}, {u, s}, {s, {}}, {{}, s}, {sub("X:=g(Z,Z);Y:=g(Z,f(Z))"), subOf(bind("Z", one))}, {sub("X:=Z;Y:=Z"), subOf(bind("Z", one))}} {
			c, ok := impl.ComposeSubstitutions(pair[0], pair[1])
			if !ok {
				t.Fatalf("composing {%s} and {%s} fails", subText(pair[0]), subText(pair[1]))
			}
			checkSeparate(t, "ComposeSubstitutions", partsOf(c, depth)...)
		}
		r, _ := impl.RestrictSubstitution(s, []string{"Y", "X", "X", "W"})
		checkSeparate(t, "RestrictSubstitution", partsOf(r, depth)...)
		m, _ := impl.MatchTerms(expr("h(X,Y,f(X),Z)"), node("h", one, one, node("f", one), two))
		checkSeparate(t, "MatchTerms", partsOf(m, depth)...)
	}
}
