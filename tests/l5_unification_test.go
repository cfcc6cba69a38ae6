package tests

import (
	"math/rand/v2"
	"slices"
	"strconv"
	"strings"
	"testing"

	"loop.example/g00892/impl"
)

func isVariable(e impl.Term) bool {
	return 'A' <= e.Name[0] && e.Name[0] <= 'Z' && len(e.Args) == 0
}

func haveSameRoot(a, b impl.Term) bool {
	return a.Name == b.Name && len(a.Args) == len(b.Args)
}

// plainBind replaces a variable in all terms of s and binds it. It reports whether s is valid.
func plainBind(s map[string]impl.Term, name string, e impl.Term) bool {
	if slices.Contains(variablesOf(e), name) {
		return false
	}
	for other := range s {
		s[other] = plainApply(map[string]impl.Term{name: e}, s[other])
	}
	s[name] = e
	_, ok := fromMap(s)
	return ok
}

// plainUnify is the procedure of the document, written down once more with a list and a map.
func plainUnify(a, b impl.Term) (impl.Substitution, bool) {
	s, ok := map[string]impl.Term{}, true
	for list := [][2]impl.Term{{a, b}}; len(list) > 0 && ok; {
		x, y := plainApply(s, list[0][0]), plainApply(s, list[0][1])
		list = list[1:]
		switch {
		case !fitsLimits(x) || !fitsLimits(y):
			ok = false
		case same(x, y):
		case isVariable(x) && isVariable(y):
			ok = plainBind(s, max(x.Name, y.Name), node(min(x.Name, y.Name)))
		case isVariable(x):
			ok = plainBind(s, x.Name, y)
		case isVariable(y):
			ok = plainBind(s, y.Name, x)
		case haveSameRoot(x, y):
			parts := [][2]impl.Term{}
			for i := range x.Args {
				parts = append(parts, [2]impl.Term{x.Args[i], y.Args[i]})
			}
			list = append(parts, list...)
		default:
			ok = false
		}
	}
	if !ok {
		return impl.Substitution{}, false
	}
	return fromMap(s)
}

// plainUnifyAll is the definition of the document, written down once more.
func plainUnifyAll(list []impl.Term) (impl.Substitution, bool) {
	s := impl.Substitution{}
	for _, e := range list[1:] {
		x, y := plainApply(mapOf(s), list[0]), plainApply(mapOf(s), e)
		if !fitsLimits(x) || !fitsLimits(y) {
			return impl.Substitution{}, false
		}
		u, ok := plainUnify(x, y)
		if !ok {
			return impl.Substitution{}, false
		}
		if s, ok = plainCompose(s, u); !ok {
			return impl.Substitution{}, false
		}
	}
	return s, true
}

// plainDisagreement is the definition of the document, written down once more.
func plainDisagreement(a, b impl.Term) ([]int, bool) {
	if !haveSameRoot(a, b) {
		return nil, true
	}
	for i := range a.Args {
		if position, differ := plainDisagreement(a.Args[i], b.Args[i]); differ {
			return append([]int{i}, position...), true
		}
	}
	return nil, false
}

// plainGeneralize is the definition of the document, written down once more.
func plainGeneralize(a, b impl.Term, pairs *[][2]impl.Term) impl.Term {
	if isVariable(a) || isVariable(b) || !haveSameRoot(a, b) {
		at := slices.IndexFunc(*pairs, func(pair [2]impl.Term) bool { return same(pair[0], a) && same(pair[1], b) })
		if at < 0 {
			at = len(*pairs)
			*pairs = append(*pairs, [2]impl.Term{a, b})
		}
		return node("G" + strconv.Itoa(at))
	}
	result := impl.Term{Name: a.Name}
	for i := range a.Args {
		result.Args = append(result.Args, plainGeneralize(a.Args[i], b.Args[i], pairs))
	}
	return result
}

// hasInstance reports whether a pattern becomes e with any number of bindings.
func hasInstance(pattern, e impl.Term) bool {
	m := map[string]impl.Term{}
	var matches func(pattern, e impl.Term) bool
	matches = func(pattern, e impl.Term) bool {
		if !isVariable(pattern) {
			return haveSameRoot(pattern, e) && slices.EqualFunc(pattern.Args, e.Args, matches)
		}
		if _, isBound := m[pattern.Name]; !isBound {
			m[pattern.Name] = e
		}
		return same(m[pattern.Name], e)
	}
	return matches(pattern, e)
}

// randomTerm is a term of at most the given size over many variables and few symbols.
func randomTerm(source *rand.Rand, size int) impl.Term {
	if size < 2 || source.IntN(8) == 0 {
		if source.IntN(4) == 0 {
			return node("a")
		}
		return node("X" + strconv.Itoa(source.IntN(24)))
	}
	arity := 1 + source.IntN(min(size-1, 3))
	e := impl.Term{Name: "fgh"[arity-1 : arity]}
	for range arity {
		e.Args = append(e.Args, randomTerm(source, (size-1)/arity))
	}
	return e
}

// randomExpression is such a term or equality that is valid.
func randomExpression(source *rand.Rand) impl.Term {
	for {
		e := randomTerm(source, 2+source.IntN(40))
		if source.IntN(5) == 0 {
			e = node("=", e, randomTerm(source, 10))
		}
		if fitsLimits(e) {
			return e
		}
	}
}

// smallTermsAndAtoms lists small expressions over X and Y.
func smallTermsAndAtoms() []impl.Term {
	list := smallExpressions(4)
	for _, text := range []string{"X = Y", "Y = X", "X = X", "Y = Y", "a = X", "X = a", "f(X) = Y", "f(Y) = X", "X = f(X)", "f(X) = f(Y)", "a = a", "f(a) = a"} {
		list = append(list, expr(text))
	}
	return list
}

// checkUnify tests one unification against the procedure, and its result against the guarantees.
func checkUnify(t *testing.T, a, b impl.Term) {
	t.Helper()
	want, exists := plainUnify(a, b)
	s, ok := impl.Unify(a, b)
	if ok != exists || !sameSub(s, want) {
		t.Fatalf("unifying %s with %s gives {%s}, %v instead of {%s}, %v", termText(a), termText(b), subText(s), ok, subText(want), exists)
	}
	if !ok {
		return
	}
	if idempotent, fine := impl.IsIdempotent(s); !idempotent || !fine || !impl.IsValidSubstitution(s) {
		t.Fatalf("the unifier {%s} of %s and %s is not idempotent or not valid", subText(s), termText(a), termText(b))
	}
	for _, binding := range s.Bindings {
		if !slices.Contains(append(variablesOf(a), variablesOf(b)...), binding.Var) {
			t.Fatalf("the unifier of %s and %s binds %s", termText(a), termText(b), binding.Var)
		}
	}
	left, right := plainApply(mapOf(s), a), plainApply(mapOf(s), b)
	if !same(left, right) {
		t.Fatalf("the unifier {%s} makes %s and %s the different %s and %s", subText(s), termText(a), termText(b), termText(left), termText(right))
	}
	if equal, fine := impl.IsUnifier(s, a, b); fine != fitsLimits(left) || equal != fine {
		t.Fatalf("IsUnifier({%s}, %s, %s) = %v, %v", subText(s), termText(a), termText(b), equal, fine)
	}
}

// checkFailure tests that two expressions are not unified, in either order.
func checkFailure(t *testing.T, a, b impl.Term) {
	t.Helper()
	for _, pair := range [][2]impl.Term{{a, b}, {b, a}} {
		if s, ok := impl.Unify(pair[0], pair[1]); !isEmptySub(s) || ok {
			t.Errorf("unifying %s with %s gives {%s}, %v", termText(pair[0]), termText(pair[1]), subText(s), ok)
		}
		if s, ok := impl.UnifyAll(pair[:]); !isEmptySub(s) || ok {
			t.Errorf("UnifyAll of %s and %s gives {%s}, %v", termText(pair[0]), termText(pair[1]), subText(s), ok)
		}
	}
}

func TestUnificationExamples(t *testing.T) {
	x, y, z, a, b := node("X"), node("Y"), node("Z"), node("a"), node("b")
	s, ok := impl.Unify(node("g", x, node("f", y)), node("g", node("f", z), x))
	if !sameSub(s, subOf(bind("X", node("f", y)), bind("Z", y))) || !ok {
		t.Errorf("unifying g(X,f(Y)) with g(f(Z),X): {%s}, %v", subText(s), ok)
	}
	position, ok := impl.Disagreement(node("f", a), node("f", b))
	if !slices.Equal(position, []int{0}) || !ok {
		t.Errorf("the disagreement of f(a) and f(b): %v, %v", position, ok)
	}
	g, ok := impl.Generalize(node("g", a, a), node("g", b, b))
	if !same(g, node("g", node("G0"), node("G0"))) || !ok {
		t.Errorf("generalizing g(a,a) and g(b,b): %v, %v", g, ok)
	}
	r, ok := impl.RenameVariables(node("g", y, node("g", z, y)), "V")
	if !same(r, node("g", node("V0"), node("g", node("V1"), node("V0")))) || !ok {
		t.Errorf("renaming g(Y,g(Z,Y)) with V: %v, %v", r, ok)
	}
}

func TestUnify(t *testing.T) {
	for _, c := range [][3]string{
		// Both sides are equal.
		{"a", "a", ""}, {"X", "X", ""}, {"f(a)", "f(a)", ""}, {"g(X,f(Y))", "g(X,f(Y))", ""}, {"a = b", "a = b", ""}, {"X = f(Y)", "X = f(Y)", ""}, {"X = X", "X = X", ""},
		// The greater one of two variables is bound, on whichever side it is.
		{"X", "Y", "Y:=X"}, {"Y", "X", "Y:=X"}, {"A", "Z", "Z:=A"}, {"G", "G0", "G0:=G"}, {"G0", "G", "G0:=G"}, {"G10", "G2", "G2:=G10"}, {"G9", "Ga", "Ga:=G9"}, {"Ga", "G9", "Ga:=G9"}, {"Xzzz", "Y", "Y:=Xzzz"}, {"f(X)", "f(Y)", "Y:=X"},
		// A variable on one side.
		{"X", "a", "X:=a"}, {"a", "X", "X:=a"}, {"X", "f(Y)", "X:=f(Y)"}, {"f(Y)", "X", "X:=f(Y)"}, {"Y", "f(X)", "Y:=f(X)"}, {"X", "f", "X:=f"}, {"g(X,a)", "g(b,Y)", "X:=b;Y:=a"}, {"g(a,X)", "g(Y,b)", "X:=b;Y:=a"},
		// The same variable on both sides.
		{"g(X,a)", "g(X,Y)", "Y:=a"}, {"g(X,X)", "g(X,Y)", "Y:=X"}, {"g(X,X)", "g(Y,X)", "Y:=X"}, {"g(X,Y)", "g(Y,X)", "Y:=X"}, {"g(f(X),Y)", "g(f(X),X)", "Y:=X"}, {"g(X,X)", "g(a,X)", "X:=a"},
		// Bindings are applied to later equations and to earlier bindings.
		{"g(X,f(Y))", "g(f(Z),X)", "X:=f(Y);Z:=Y"}, {"g(X,Y)", "g(f(Y),a)", "X:=f(a);Y:=a"}, {"g(X,X)", "g(Y,a)", "X:=a;Y:=a"}, {"g(X,X)", "g(f(Y),f(a))", "X:=f(a);Y:=a"}, {"g(X,X)", "g(f(Y),f(Z))", "X:=f(Y);Z:=Y"}, {"g(X,X)", "g(f(Z),f(Y))", "X:=f(Y);Z:=Y"},
		{"h(X,Y,Z)", "h(f(Y),f(Z),a)", "X:=f(f(a));Y:=f(a);Z:=a"}, {"h(X,Y,Z)", "h(Y,Z,X)", "Y:=X;Z:=X"}, {"h(Z,Y,X)", "h(Y,X,a)", "X:=a;Y:=a;Z:=a"}, {"h(X,Y,X)", "h(Y,Z,a)", "X:=a;Y:=a;Z:=a"}, {"h(X,Y,g(X,Y))", "h(a,b,Z)", "X:=a;Y:=b;Z:=g(a,b)"},
		{"h(X,f(X),Y)", "h(a,Y,f(Z))", "X:=a;Y:=f(a);Z:=a"}, {"h(g(X,Y),X,Y)", "h(g(Z,Z),Z,a)", "X:=a;Y:=a;Z:=a"}, {"h(A,B,C,D)", "h(B,C,D,a)", "A:=a;B:=a;C:=a;D:=a"}, {"h(B,A,D,C)", "h(f(A),f(C),C,a)", "A:=f(a);B:=f(f(a));C:=a;D:=a"},
		// The least of several variables is left, in whichever order the equations are.
		{"h(X,Z,g(Y,Z))", "h(f(Z),Y,W)", "W:=g(Y,Y);X:=f(Y);Z:=Y"}, {"g(f(B),g(C,C))", "g(f(C),g(A,D))", "B:=A;C:=A;D:=A"}, {"g(f(X),f(Y))", "g(Z,Z)", "Y:=X;Z:=f(X)"}, {"g(Z,Z)", "g(f(Y),f(X))", "Y:=X;Z:=f(X)"},
		// Two equalities.
		{"X = Y", "a = b", "X:=a;Y:=b"}, {"a = b", "X = Y", "X:=a;Y:=b"}, {"X = Y", "Y = X", "Y:=X"}, {"X = a", "f(Y) = Y", "X:=f(a);Y:=a"}, {"X = X", "f(Y) = f(b)", "X:=f(b);Y:=b"}, {"f(X) = X", "Y = a", "X:=a;Y:=f(a)"}, {"X = X", "Y = Z", "Y:=X;Z:=X"},
	} {
		s, ok := impl.Unify(expr(c[0]), expr(c[1]))
		if !sameSub(s, sub(c[2])) || !ok {
			t.Errorf("unifying %s with %s gives {%s}, %v", c[0], c[1], subText(s), ok)
		}
		checkUnify(t, expr(c[0]), expr(c[1]))
		checkUnify(t, expr(c[1]), expr(c[0]))
	}
}

func TestUnifyFails(t *testing.T) {
	for _, c := range [][2]string{
		// Different Names, or different numbers of arguments.
		{"a", "b"}, {"a", "f(a)"}, {"f", "f(X)"}, {"f(X)", "g(X)"}, {"f(X)", "f(X,X)"}, {"f(X,Y)", "f(X,Y,Z)"}, {"f(a)", "f(b)"}, {"g(X,a)", "g(Y,b)"}, {"g(a,X)", "g(b,X)"}, {"h(X,Y,Z,a)", "h(X,Y,Z,b)"}, {"f(g(X))", "f(h(X))"}, {"f(f(a))", "f(a)"},
		// They differ only after earlier bindings are applied.
		{"g(X,X)", "g(a,b)"}, {"g(X,X)", "g(f(Y),g(Y))"}, {"g(X,Y)", "g(Y,f(X,Y))"}, {"h(X,Y,X)", "h(Y,a,b)"}, {"h(X,Y,g(X,Y))", "h(a,b,g(Z,Z))"},
		// The variable occurs in the other side at once.
		{"X", "f(X)"}, {"X", "f(f(f(X)))"}, {"X", "g(a,X)"}, {"X", "g(Y,g(X,Y))"}, {"f(X)", "f(f(X))"}, {"g(a,Y)", "g(a,f(Y))"}, {"f(X) = a", "X = a"}, {"X = Y", "X = f(Y)"},
		// It does only after earlier bindings are applied.
		{"g(X,Y)", "g(f(Y),f(X))"}, {"g(X,X)", "g(Y,f(Y))"}, {"g(X,f(X))", "g(Y,Y)"}, {"h(X,Y,Z)", "h(f(Y),f(Z),f(X))"}, {"h(X,Y,Z)", "h(Y,Z,f(X))"}, {"g(X,Y)", "g(f(Y),X)"}, {"X = Y", "f(Y) = X"}, {"X = X", "Y = f(Y)"},
		// An equality is no term, and no other expression is an equality.
		{"X", "a = b"}, {"X", "Y = Z"}, {"X", "X = a"}, {"X", "X = X"}, {"a", "a = a"}, {"f(X,Y)", "X = Y"}, {"f(a,b)", "a = b"}, {"a = b", "b = a"}, {"X = X", "a = b"}, {"a = X", "b = X"}, {"X = f(X)", "Y = Y"},
	} {
		checkFailure(t, expr(c[0]), expr(c[1]))
		checkUnify(t, expr(c[0]), expr(c[1]))
	}
}

func TestUnificationFollowsTheProcedure(t *testing.T) {
	for _, list := range [][]impl.Term{patterns(), smallTermsAndAtoms()} {
		for _, a := range list {
			for _, b := range list {
				checkUnify(t, a, b)
			}
		}
	}
}

// withVariables replaces some subterms below the root of an expression by variables.
func withVariables(source *rand.Rand, e impl.Term) impl.Term {
	result := impl.Term{Name: e.Name}
	for _, arg := range e.Args {
		if source.IntN(2+len(arg.Args)) == 0 {
			result.Args = append(result.Args, randomTerm(source, 1))
		} else {
			result.Args = append(result.Args, withVariables(source, arg))
		}
	}
	return result
}

func TestUnificationOfManyVariables(t *testing.T) {
	source, few, many, failed := rand.New(rand.NewPCG(5, 5)), 0, 0, 0
	for range 40000 {
		e := randomExpression(source)
		a, b := withVariables(source, e), withVariables(source, e)
		checkUnify(t, a, b)
		if s, ok := impl.Unify(a, b); !ok {
			failed++
		} else if len(s.Bindings) < 6 {
			few++
		} else {
			many++
		}
	}
	if few < 10000 || many < 500 || failed < 5000 {
		t.Error("unified by few bindings:", few, "by many:", many, "not unified:", failed)
	}
	for range 10000 {
		checkUnify(t, randomExpression(source), randomExpression(source))
	}
}

func TestExpressionsUnifyWithThemselves(t *testing.T) {
	for _, e := range append(patterns(), smallTermsAndAtoms()...) {
		if s, ok := impl.Unify(e, clone(e)); !isEmptySub(s) || !ok {
			t.Errorf("unifying %s with itself gives {%s}, %v", termText(e), subText(s), ok)
		}
		for count := 1; count <= impl.MaxArity; count++ {
			if s, ok := impl.UnifyAll(slices.Repeat([]impl.Term{e}, count)); !isEmptySub(s) || !ok {
				t.Errorf("unifying %s with itself %d times gives {%s}, %v", termText(e), count, subText(s), ok)
			}
		}
		if isEqual, ok := impl.IsUnifier(impl.Substitution{}, e, e); !isEqual || !ok {
			t.Errorf("the empty substitution is no unifier of %s and itself: %v, %v", termText(e), isEqual, ok)
		}
		if position, ok := impl.Disagreement(e, clone(e)); len(position) != 0 || ok {
			t.Errorf("%s differs from itself at %v, %v", termText(e), position, ok)
		}
	}
}

// allTexts lists the texts of the expressions with a substitution applied, or nothing for those
// that become too great.
func allTexts(s impl.Substitution, list []impl.Term) []string {
	texts := []string{}
	for _, e := range list {
		text := ""
		if r := plainApply(mapOf(s), e); fitsLimits(r) {
			text = termText(r)
		}
		texts = append(texts, text)
	}
	return texts
}

// checkMostGeneral tests that every unifier of any two of the expressions that is among the
// substitutions results from that of the program. It returns how many unifiers there are.
func checkMostGeneral(t *testing.T, list []impl.Term, others []impl.Substitution) int {
	t.Helper()
	texts, count := [][]string{}, 0
	for _, other := range others {
		texts = append(texts, allTexts(other, list))
	}
	for i, a := range list {
		for j, b := range list {
			s, ok := impl.Unify(a, b)
			for k, other := range others {
				if texts[k][i] == "" || texts[k][i] != texts[k][j] {
					continue
				}
				count++
				if isEqual, fine := impl.IsUnifier(other, a, b); !isEqual || !fine || !ok {
					t.Fatalf("%s and %s are unified: %v, but {%s} is a unifier: %v, %v", termText(a), termText(b), ok, subText(other), isEqual, fine)
				}
				if c, fine := impl.ComposeSubstitutions(s, other); !fine || !sameSub(c, other) {
					t.Fatalf("the unifier {%s} of %s and %s is less general than {%s}", subText(s), termText(a), termText(b), subText(other))
				}
			}
		}
	}
	return count
}

func TestUnifiersAreMostGeneral(t *testing.T) {
	three := nodes("X", "Y", "Z", "a")
	for _, x := range nodes("X", "Y", "Z", "a") {
		for _, y := range nodes("X", "Y", "Z", "b") {
			for _, z := range nodes("X", "Y", "Z", "c") {
				three = append(three, node("h", x, y, z), node("h", node("f", x), node("f", y), z))
			}
		}
	}
	for i, c := range []struct {
		list   []impl.Term
		others []impl.Substitution
		least  int
	}{
		{smallTermsAndAtoms(), smallPairs(), 20000}, {patterns(), substitutions(), 5000}, {three, renamings(), 20000}, {patterns(), append(renamings(), smallPairs()...), 40000},
	} {
		if count := checkMostGeneral(t, c.list, c.others); count < c.least {
			t.Errorf("%d: only %d unifiers", i, count)
		}
	}
}

// repeated is an h with x so many times and then a so many times as arguments.
func repeated(x impl.Term, times int, others int) impl.Term {
	return node("h", append(slices.Repeat([]impl.Term{x}, times), slices.Repeat(nodes("a"), others)...)...)
}

// checkLimit tests that two expressions are unified by s if it is within the limits.
func checkLimit(t *testing.T, a, b impl.Term, fits bool, s impl.Substitution) {
	t.Helper()
	for _, pair := range [][2]impl.Term{{a, b}, {b, a}} {
		r, ok := impl.Unify(pair[0], pair[1])
		if ok != fits || ok && !sameSub(r, s) || !ok && !isEmptySub(r) {
			t.Errorf("unifying %s with %s gives {%s}, %v", termText(pair[0]), termText(pair[1]), subText(r), ok)
		}
		checkUnify(t, pair[0], pair[1])
	}
}

func TestDepthOfUnifiedExpressions(t *testing.T) {
	x, y, a := node("X"), node("Y"), node("a")
	for bound := 1; bound < impl.MaxTermDepth; bound++ {
		for above := 1; above < impl.MaxTermDepth; above++ {
			depth := bound + above - 1
			fits := depth <= impl.MaxTermDepth
			// A side of a later equation becomes too deep, even if the other one is the same.
			checkLimit(t, node("g", x, chain(above, x)), node("g", chain(bound, a), y), fits, subOf(bind("X", chain(bound, a)), bind("Y", chain(depth, a))))
			checkLimit(t, node("g", x, chain(above, x)), node("g", chain(bound, a), chain(above, x)), fits, subOf(bind("X", chain(bound, a))))
			checkLimit(t, node("=", x, chain(above, x)), node("=", chain(bound, a), y), fits, subOf(bind("X", chain(bound, a)), bind("Y", chain(depth, a))))
			// The term of an earlier binding becomes too deep.
			if above > 1 {
				checkLimit(t, node("g", x, y), node("g", chain(above, y), chain(bound, a)), fits, subOf(bind("X", chain(depth, a)), bind("Y", chain(bound, a))))
				checkLimit(t, node("=", x, y), node("=", chain(above, y), chain(bound, a)), fits, subOf(bind("X", chain(depth, a)), bind("Y", chain(bound, a))))
			}
		}
	}
	checkLimit(t, x, chain(impl.MaxTermDepth, a), true, subOf(bind("X", chain(impl.MaxTermDepth, a))))
	checkLimit(t, x, chain(impl.MaxTermDepth, y), true, subOf(bind("X", chain(impl.MaxTermDepth, y))))
	checkLimit(t, chain(impl.MaxTermDepth, x), chain(impl.MaxTermDepth, a), true, subOf(bind("X", a)))
}

func TestSizeOfUnifiedExpressions(t *testing.T) {
	x, y := node("X"), node("Y")
	exact := 0
	for size := 1; size <= impl.MaxTermSize-2; size++ {
		for times := 1; times <= impl.MaxArity; times++ {
			for others := range impl.MaxArity - times + 1 {
				whole := 1 + times*size + others
				fits := whole <= impl.MaxTermSize
				if whole == impl.MaxTermSize || whole == impl.MaxTermSize+1 {
					exact++
				}
				both := subOf(bind("X", bush(size)), bind("Y", repeated(bush(size), times, others)))
				reverse := subOf(bind("X", repeated(bush(size), times, others)), bind("Y", bush(size)))
				// A side of a later equation becomes too great, even if the other one is the same.
				checkLimit(t, node("g", x, repeated(x, times, others)), node("g", bush(size), y), fits, both)
				if 2+size+times+others <= impl.MaxTermSize {
					checkLimit(t, node("g", x, repeated(x, times, others)), node("g", bush(size), repeated(x, times, others)), fits, subOf(bind("X", bush(size))))
					// The term of an earlier binding becomes too great.
					checkLimit(t, node("g", x, y), node("g", repeated(y, times, others), bush(size)), fits, reverse)
					checkLimit(t, node("=", x, y), node("=", repeated(y, times, others), bush(size)), fits, reverse)
				}
			}
		}
	}
	if exact < 4 {
		t.Error("the limit is met only", exact, "times")
	}
	checkLimit(t, x, bush(impl.MaxTermSize), true, subOf(bind("X", bush(impl.MaxTermSize))))
	checkLimit(t, x, deepAndWide(), false, impl.Substitution{})
	checkLimit(t, y, deepAndWide(), true, subOf(bind("Y", deepAndWide())))
}

func TestUnifiedExpressionsMayBecomeTooGreat(t *testing.T) {
	// The procedure applies the result to no side that is as great as the whole expressions.
	a, b := node("h", node("X"), node("X"), node("Y")), node("h", bush(20), node("Z"), node("a"))
	s, want := subOf(bind("X", bush(20)), bind("Y", node("a")), bind("Z", bush(20))), true
	checkLimit(t, a, b, want, s)
	if isEqual, ok := impl.IsUnifier(s, a, b); isEqual || ok {
		t.Errorf("IsUnifier with results that are too great: %v, %v", isEqual, ok)
	}
	if r, ok := impl.UnifyAll([]impl.Term{a, b}); !sameSub(r, s) || !ok {
		t.Errorf("UnifyAll of two: {%s}, %v", subText(r), ok)
	}
	// Here it is applied to the first expression as a whole.
	for _, list := range [][]impl.Term{{a, b, node("W")}, {a, b, a}, {a, b, b}, {a, b, expr("h(A,B,C)")}} {
		if r, ok := impl.UnifyAll(list); !isEmptySub(r) || ok {
			t.Errorf("UnifyAll with results that are too great: {%s}, %v", subText(r), ok)
		}
	}
}

func TestLimitOfUnifyingBindings(t *testing.T) {
	for count := 1; count <= 22; count++ {
		own, constants := nodes(names(count)...), slices.Repeat(nodes("a"), count)
		checkLimit(t, leaves(own...), leaves(constants...), count <= impl.MaxBindings, many(count, node("a")))
		checkLimit(t, leaves(own...), leaves(append(slices.Clone(own[1:]), own[0])...), count-1 <= impl.MaxBindings, subOf(many(count, own[0]).Bindings[1:]...))
		checkLimit(t, leaves(own...), leaves(own...), true, impl.Substitution{})
		for kept := range count {
			mixed := append(slices.Clone(own[:kept]), constants[kept:]...)
			checkLimit(t, leaves(own...), leaves(mixed...), count-kept <= impl.MaxBindings, subOf(many(count, node("a")).Bindings[kept:]...))
		}
	}
}

func TestUnifyAll(t *testing.T) {
	for _, c := range []struct {
		list []string
		want string
	}{
		{[]string{"X"}, ""}, {[]string{"f(X,a)"}, ""}, {[]string{"X = f(X)"}, ""}, {[]string{"a", "a"}, ""}, {[]string{"X", "a"}, "X:=a"}, {[]string{"X", "Y"}, "Y:=X"}, {[]string{"a", "a", "a", "a"}, ""},
		{[]string{"X", "Y", "Z"}, "Y:=X;Z:=X"}, {[]string{"Z", "Y", "X"}, "Y:=X;Z:=X"}, {[]string{"X", "Y", "Z", "W"}, "X:=W;Y:=W;Z:=W"}, {[]string{"X", "Y", "Z", "a"}, "X:=a;Y:=a;Z:=a"}, {[]string{"a", "X", "Y", "Z"}, "X:=a;Y:=a;Z:=a"},
		{[]string{"g(X,b)", "g(a,Y)", "Z"}, "X:=a;Y:=b;Z:=g(a,b)"}, {[]string{"Z", "g(X,b)", "g(a,Y)"}, "X:=a;Y:=b;Z:=g(a,b)"}, {[]string{"g(X,Y)", "g(Y,Z)", "g(Z,a)"}, "X:=a;Y:=a;Z:=a"}, {[]string{"g(X,Y)", "g(Y,X)", "g(X,X)", "g(Z,W)"}, "X:=W;Y:=W;Z:=W"},
		{[]string{"X", "f(Y)", "f(f(Z))", "f(f(f(W)))"}, "X:=f(f(f(W)));Y:=f(f(W));Z:=f(W)"}, {[]string{"h(X,Y,Z)", "h(f(Y),A,B)", "h(C,f(D),a)"}, "A:=f(D);B:=a;C:=f(f(D));X:=f(f(D));Y:=f(D);Z:=a"},
		{[]string{"X = b", "a = Y", "Z = W"}, "W:=b;X:=a;Y:=b;Z:=a"}, {[]string{"X = X", "Y = a", "f(Z) = f(Z)"}, "fails"}, {[]string{"X = X", "Y = Z", "a = W"}, "W:=a;X:=a;Y:=a;Z:=a"},
		// They unify in pairs but not together.
		{[]string{"g(X,X)", "g(a,Y)", "g(Z,b)"}, "fails"}, {[]string{"g(a,Y)", "g(Z,b)", "g(X,X)"}, "fails"}, {[]string{"h(X,Y,a)", "h(Y,X,Z)", "h(b,c,A)"}, "fails"}, {[]string{"g(X,Y)", "g(f(Z),W)", "g(A,A)", "g(B,f(B))"}, "fails"}, {[]string{"g(X,Y)", "g(f(A),A)", "g(B,B)"}, "fails"},
		{[]string{"a", "b"}, "fails"}, {[]string{"a", "X", "b"}, "fails"}, {[]string{"X", "a", "b"}, "fails"}, {[]string{"X", "f(X)"}, "fails"}, {[]string{"X", "Y", "f(X)"}, "fails"}, {[]string{"X", "Y", "Z", "a = b"}, "fails"}, {[]string{"a = b", "X"}, "fails"},
		// The number of elements is out of range.
		{nil, "fails"}, {[]string{"a", "a", "a", "a", "a"}, "fails"}, {[]string{"X", "X", "X", "X", "X"}, "fails"}, {slices.Repeat([]string{"a"}, 1000), "fails"},
	} {
		list := []impl.Term{}
		for _, text := range c.list {
			list = append(list, expr(text))
		}
		exists, want := c.want != "fails", impl.Substitution{}
		if exists {
			want = sub(c.want)
		}
		s, ok := impl.UnifyAll(list)
		if !sameSub(s, want) || ok != exists {
			t.Errorf("UnifyAll of %q gives {%s}, %v", c.list[:min(5, len(c.list))], subText(s), ok)
		}
	}
}

func TestNumberOfUnifiedExpressions(t *testing.T) {
	if impl.MaxArity != 4 {
		t.Error(impl.MaxArity)
	}
	for count := range 40 {
		for _, list := range [][]impl.Term{slices.Repeat(nodes("a"), count), slices.Repeat(nodes("X"), count), nodes(names(count)...), slices.Repeat([]impl.Term{expr("X = a")}, count)} {
			s, ok := impl.UnifyAll(list)
			fits := count >= 1 && count <= impl.MaxArity
			if ok != fits || !ok && !isEmptySub(s) {
				t.Errorf("UnifyAll of %d expressions: {%s}, %v", count, subText(s), ok)
			}
		}
	}
}

// checkUnifyAll tests one result against the definition and the guarantees.
func checkUnifyAll(t *testing.T, list ...impl.Term) {
	t.Helper()
	want, exists := plainUnifyAll(list)
	s, ok := impl.UnifyAll(list)
	if ok != exists || !sameSub(s, want) {
		t.Fatalf("UnifyAll of %v gives {%s}, %v instead of {%s}, %v", list, subText(s), ok, subText(want), exists)
	}
	if !ok {
		return
	}
	if idempotent, fine := impl.IsIdempotent(s); !idempotent || !fine {
		t.Fatalf("the unifier {%s} of %v is not idempotent", subText(s), list)
	}
	for _, e := range list {
		if !same(plainApply(mapOf(s), e), plainApply(mapOf(s), list[0])) {
			t.Fatalf("the unifier {%s} of %v does not make all equal", subText(s), list)
		}
	}
}

func TestUnifyAllFollowsTheDefinition(t *testing.T) {
	list := smallExpressions(3)
	for _, text := range []string{"Z", "g(Z,X)", "g(Y,Z)", "g(Z,b)", "f(Z)", "X = Y", "Y = f(X)", "a = Z", "W = W", "g(W,f(Z))", "g(g(X,Y),Z)", "h(X,Y,Z)", "h(Z,a,W)"} {
		list = append(list, expr(text))
	}
	for i, a := range list {
		checkUnifyAll(t, a)
		for j, b := range list {
			checkUnifyAll(t, a, b)
			for k, c := range list {
				checkUnifyAll(t, a, b, c)
				checkUnifyAll(t, a, b, c, list[(i*7+j*5+k*3)%len(list)])
			}
		}
	}
	source := rand.New(rand.NewPCG(5, 6))
	for range 20000 {
		four := []impl.Term{randomExpression(source), randomExpression(source), randomTerm(source, 3), randomTerm(source, 5)}
		source.Shuffle(4, func(i, j int) { four[i], four[j] = four[j], four[i] })
		checkUnifyAll(t, four[:1+source.IntN(4)]...)
	}
}

func TestUnifiersOfAllAreMostGeneral(t *testing.T) {
	list, others, texts := smallExpressions(3), smallPairs(), [][]string{}
	for _, other := range others {
		texts = append(texts, allTexts(other, list))
	}
	count := 0
	for i, a := range list {
		for j, b := range list {
			for k, c := range list {
				s, ok := impl.UnifyAll([]impl.Term{a, b, c})
				for n, other := range others {
					if texts[n][i] != texts[n][j] || texts[n][i] != texts[n][k] {
						continue
					}
					count++
					if composed, fine := impl.ComposeSubstitutions(s, other); !ok || !fine || !sameSub(composed, other) {
						t.Fatalf("the unifier {%s}, %v of %s, %s and %s is less general than {%s}", subText(s), ok, termText(a), termText(b), termText(c), subText(other))
					}
				}
			}
		}
	}
	if count < 10000 {
		t.Error("only", count, "unifiers")
	}
}

func TestLimitsOfUnifyAll(t *testing.T) {
	for count := 2; count <= 22; count++ {
		own, constants := nodes(names(count)...), slices.Repeat(nodes("a"), count)
		first := count / 2
		list := []impl.Term{leaves(own...), leaves(slices.Concat(constants[:first], own[first:])...), leaves(slices.Concat(own[:first], constants[first:])...)}
		s, ok := impl.UnifyAll(list)
		fits := count <= impl.MaxBindings
		if ok != fits || ok && !sameSub(s, many(count, node("a"))) || !ok && !isEmptySub(s) {
			t.Errorf("UnifyAll with %d bindings gives {%s}, %v", count, subText(s), ok)
		}
		checkUnifyAll(t, list...)
	}
	x, y, z := node("X"), node("Y"), node("Z")
	for bound := 1; bound < impl.MaxTermDepth; bound++ {
		for above := 2; above < impl.MaxTermDepth; above++ {
			// The first two bind X to a term that contains Y, and the third one binds Y.
			list := []impl.Term{node("g", x, y), node("g", chain(above, y), y), node("g", z, chain(bound, node("a")))}
			deep, fits := chain(bound+above-1, node("a")), bound+above-1 <= impl.MaxTermDepth
			want := subOf(bind("X", deep), bind("Y", chain(bound, node("a"))), bind("Z", deep))
			s, ok := impl.UnifyAll(list)
			if ok != fits || ok && !sameSub(s, want) || !ok && !isEmptySub(s) {
				t.Errorf("UnifyAll with the depths %d and %d gives {%s}, %v", above, bound, subText(s), ok)
			}
			checkUnifyAll(t, list...)
			checkUnifyAll(t, node("g", x, y), node("g", chain(above, y), chain(bound, node("a"))), z)
		}
	}
	for size := 1; size <= impl.MaxTermSize-2; size++ {
		for times := 1; times <= impl.MaxArity; times++ {
			checkUnifyAll(t, node("g", x, y), node("g", repeated(y, times, 0), bush(size)), z)
			checkUnifyAll(t, node("g", x, y), node("g", bush(size), node("W")), node("g", z, repeated(z, times, 0)))
			checkUnifyAll(t, x, node("g", y, bush(size)), repeated(z, times%2+1, 1), node("g", bush(size), bush(times)))
		}
	}
}

func TestIsUnifier(t *testing.T) {
	for _, c := range []struct {
		s, a, b string
		want    bool
	}{
		{"", "a", "a", true}, {"", "X", "X", true}, {"", "X", "Y", false}, {"", "a", "b", false}, {"X:=a", "X", "a", true}, {"X:=a", "a", "X", true}, {"X:=a", "X", "b", false}, {"X:=a", "X", "Y", false}, {"X:=Y", "X", "Y", true}, {"Y:=X", "X", "Y", true},
		{"X:=Y;Y:=X", "X", "Y", false}, {"X:=Z;Y:=Z", "X", "Y", true}, {"X:=f(Y);Z:=Y", "g(X,f(Y))", "g(f(Z),X)", true}, {"X:=f(Z);Y:=Z", "g(X,f(Y))", "g(f(Z),X)", true}, {"X:=f(Z)", "g(X,f(Y))", "g(f(Z),X)", false}, {"X:=f(a);Y:=a;Z:=a", "g(X,f(Y))", "g(f(Z),X)", true},
		// A substitution is applied once.
		{"X:=f(X)", "X", "f(X)", false}, {"X:=Y;Y:=a", "X", "a", false}, {"X:=Y;Y:=a", "f(X)", "f(Y)", false}, {"X:=f(Y);Y:=X", "X", "f(X)", false}, {"X:=f(Y);Y:=f(Y)", "X", "Y", true},
		{"X:=a;Y:=b", "X = Y", "a = b", true}, {"X:=a;Y:=b", "X = Y", "b = a", false}, {"X:=a", "X = X", "g(a,a)", false}, {"X:=a", "X", "a = a", false}, {"X:=a", "f(X)", "f(X,X)", false}, {"W:=a", "X", "X", true}, {"W:=a", "X", "a", false},
	} {
		if isEqual, ok := impl.IsUnifier(sub(c.s), expr(c.a), expr(c.b)); isEqual != c.want || !ok {
			t.Errorf("IsUnifier({%s}, %s, %s) = %v, %v", c.s, c.a, c.b, isEqual, ok)
		}
	}
}

func TestUnifiersFollowTheDefinition(t *testing.T) {
	list := patterns()
	for _, s := range substitutions() {
		texts := allTexts(s, list)
		for i, a := range list {
			for j, b := range list {
				exists := texts[i] != "" && texts[j] != ""
				if isEqual, ok := impl.IsUnifier(s, a, b); ok != exists || isEqual != (exists && texts[i] == texts[j]) {
					t.Fatalf("IsUnifier({%s}, %s, %s) = %v, %v", subText(s), termText(a), termText(b), isEqual, ok)
				}
			}
		}
	}
}

func TestUnifiersOfResultsThatAreTooGreat(t *testing.T) {
	x := node("X")
	for size := 1; size <= impl.MaxTermSize; size++ {
		s := subOf(bind("X", bush(size)))
		for _, other := range []impl.Term{node("a"), x, node("g", x, x)} {
			for _, pair := range [][2]impl.Term{{node("g", x, x), other}, {other, node("g", x, x)}} {
				fits := 1+2*size <= impl.MaxTermSize
				if isEqual, ok := impl.IsUnifier(s, pair[0], pair[1]); ok != fits || isEqual != (fits && same(pair[0], pair[1])) {
					t.Errorf("IsUnifier with %d nodes: %v, %v", 1+2*size, isEqual, ok)
				}
			}
		}
	}
	for depth := 1; depth <= impl.MaxTermDepth; depth++ {
		for above := 1; above <= impl.MaxTermDepth; above++ {
			fits := depth+above-1 <= impl.MaxTermDepth
			if isEqual, ok := impl.IsUnifier(subOf(bind("X", chain(depth, node("a")))), chain(above, x), chain(above, x)); ok != fits || isEqual != fits {
				t.Errorf("IsUnifier with the depth %d: %v, %v", depth+above-1, isEqual, ok)
			}
		}
	}
}

func TestDisagreement(t *testing.T) {
	for _, c := range []struct {
		a, b string
		want []int
	}{
		{"f(a)", "f(b)", []int{0}}, {"a", "b", nil}, {"X", "Y", nil}, {"X", "a", nil}, {"a", "f(a)", nil}, {"f(X)", "g(X)", nil}, {"f(X)", "f(X,X)", nil}, {"f(a,b)", "f(a)", nil},
		{"g(X,a)", "g(Y,a)", []int{0}}, {"g(X,a)", "g(X,b)", []int{1}}, {"g(X,a)", "g(Y,b)", []int{0}}, {"h(a,b,c,d)", "h(a,b,c,e)", []int{3}}, {"f(a,g(X))", "f(a,g(Y))", []int{1, 0}}, {"f(f(a),f(a))", "f(f(a),f(a,a))", []int{1}},
		// The first one in preorder is neither the highest one nor the last one.
		{"g(g(a,b),c)", "g(g(a,d),e)", []int{0, 1}}, {"g(f(f(a)),b)", "g(f(f(c)),d)", []int{0, 0, 0}}, {"g(a,g(g(X,a),b))", "g(a,g(g(X,b),X))", []int{1, 0, 1}}, {"h(a,f(b),c)", "h(a,f(c),d)", []int{1, 0}}, {"g(f(X),f(X))", "g(f(X),f(Y))", []int{1, 0}},
		{"a = b", "a = c", []int{1}}, {"a = b", "c = b", []int{0}}, {"f(X) = a", "f(Y) = b", []int{0, 0}}, {"a = b", "f(a,b)", nil}, {"X", "a = b", nil}, {"a = f(b)", "a = f(c)", []int{1, 0}},
	} {
		for _, pair := range [][2]string{{c.a, c.b}, {c.b, c.a}} {
			if position, ok := impl.Disagreement(expr(pair[0]), expr(pair[1])); !slices.Equal(position, c.want) || !ok {
				t.Errorf("Disagreement(%s, %s) = %v, %v", pair[0], pair[1], position, ok)
			}
		}
	}
	for depth := 1; depth <= impl.MaxTermDepth; depth++ {
		if position, ok := impl.Disagreement(chain(depth, node("a")), chain(depth, node("b"))); !slices.Equal(position, make([]int, depth-1)) || !ok {
			t.Errorf("the disagreement at the depth %d: %v, %v", depth, position, ok)
		}
	}
}

func TestDisagreementFollowsTheDefinition(t *testing.T) {
	for _, list := range [][]impl.Term{patterns(), smallTermsAndAtoms()} {
		for _, a := range list {
			for _, b := range list {
				want, differ := plainDisagreement(a, b)
				position, ok := impl.Disagreement(a, b)
				if ok != differ || ok == same(a, b) || !slices.Equal(position, want) {
					t.Fatalf("Disagreement(%s, %s) = %v, %v", termText(a), termText(b), position, ok)
				}
			}
		}
	}
	for _, e := range expressions() {
		for _, at := range positionsOf(t, e) {
			other := clone(e)
			changed := &other
			for _, i := range at {
				changed = &changed.Args[i]
			}
			*changed = node("new", changed.Args...)
			if position, ok := impl.Disagreement(e, other); !slices.Equal(position, at) || !ok {
				t.Errorf("Disagreement(%s, %s) = %v, %v", termText(e), termText(other), position, ok)
			}
		}
	}
}

func TestOccursIn(t *testing.T) {
	for _, c := range []struct {
		name, e string
		want    bool
	}{
		{"X", "X", true}, {"X", "Y", false}, {"X", "a", false}, {"X", "f(X)", true}, {"X", "f(Y)", false}, {"Y", "g(Y,a)", true}, {"Y", "g(a,Y)", true}, {"Y", "h(a,b,c,f(g(X,Y)))", true}, {"Z", "h(a,b,c,f(g(X,Y)))", false},
		{"X", "f(X0)", false}, {"X0", "f(X)", false}, {"X0", "f(X0)", true}, {"Xabc", "f(Xabc)", true}, {"Xab", "f(Xabc)", false}, {"X", "x", false}, {"X", "f(x)", false}, {"X", "X = a", true}, {"X", "a = f(X)", true}, {"X", "a = Y", false},
	} {
		if occurs, ok := impl.OccursIn(c.name, expr(c.e)); occurs != c.want || !ok {
			t.Errorf("OccursIn(%s, %s) = %v, %v", c.name, c.e, occurs, ok)
		}
	}
	all := []string{"A", "B", "C", "D", "G", "G0", "V", "V10", "V31", "X", "X0", "Y", "Z", "Zab9", "Zzzz"}
	for _, e := range patterns() {
		for _, name := range append(slices.Clone(all), variablesOf(e)...) {
			if occurs, ok := impl.OccursIn(name, e); occurs != slices.Contains(variablesOf(e), name) || !ok {
				t.Errorf("OccursIn(%s, %s) = %v, %v", name, termText(e), occurs, ok)
			}
		}
	}
}

func TestOnlyVariablesOccur(t *testing.T) {
	for _, name := range append(possibleNames(), "f", "x", "X = X", "X,Y") {
		for _, e := range []impl.Term{expr("f(X,a,x,Z0a)"), expr("X = a"), node("X"), node("f")} {
			isName := variableName.MatchString(name)
			if occurs, ok := impl.OccursIn(name, e); ok != isName || occurs != (isName && slices.Contains(variablesOf(e), name)) {
				t.Fatalf("OccursIn(%q, %s) = %v, %v", name, termText(e), occurs, ok)
			}
		}
	}
}

func TestGeneralize(t *testing.T) {
	for _, c := range [][3]string{
		{"g(a,a)", "g(b,b)", "g(G0,G0)"}, {"a", "a", "a"}, {"f(a)", "f(a)", "f(a)"}, {"f(a)", "f(b)", "f(G0)"}, {"g(a,b)", "g(a,c)", "g(a,G0)"}, {"h(a,b,c,d)", "h(e,b,f,d)", "h(G0,b,G1,d)"},
		// The terms differ at the root.
		{"a", "b", "G0"}, {"a", "f(a)", "G0"}, {"f(a)", "g(a)", "G0"}, {"f(a)", "f(a,a)", "G0"}, {"g(a,b)", "h(a,b)", "G0"}, {"X", "a", "G0"}, {"X", "f(X)", "G0"},
		// A variable is replaced even if both terms have it.
		{"X", "X", "G0"}, {"X", "Y", "G0"}, {"f(X)", "f(X)", "f(G0)"}, {"g(X,Y)", "g(X,Y)", "g(G0,G1)"}, {"g(X,X)", "g(X,X)", "g(G0,G0)"}, {"g(X,X)", "g(Y,Y)", "g(G0,G0)"}, {"g(X,X)", "g(X,Y)", "g(G0,G1)"}, {"g(X,f(X))", "g(a,f(a))", "g(G0,f(G0))"},
		// Equal pairs and pairs that are exchanged.
		{"g(a,b)", "g(b,a)", "g(G0,G1)"}, {"g(X,Y)", "g(Y,X)", "g(G0,G1)"}, {"g(X,a)", "g(a,X)", "g(G0,G1)"}, {"h(a,b,a)", "h(b,a,b)", "h(G0,G1,G0)"}, {"h(a,b,a,b)", "h(b,a,b,a)", "h(G0,G1,G0,G1)"}, {"h(a,a,b)", "h(b,c,b)", "h(G0,G1,b)"}, {"h(a,b,c)", "h(d,d,d)", "h(G0,G1,G2)"}, {"h(d,d,d)", "h(a,b,c)", "h(G0,G1,G2)"},
		// The pairs are those of whole subterms, at all depths.
		{"g(f(a),f(b))", "g(f(b),f(a))", "g(f(G0),f(G1))"}, {"g(f(a),f(a))", "g(b,b)", "g(G0,G0)"}, {"g(f(a),f(c))", "g(b,b)", "g(G0,G1)"}, {"g(f(a),a)", "g(f(b),b)", "g(f(G0),G0)"}, {"h(f(a,a),a,f(a))", "h(f(b,b),b,b)", "h(f(G0,G0),G0,G1)"}, {"g(f(X),f(a))", "g(a,f(X))", "g(G0,f(G1))"}, {"g(f(f(a)),f(a))", "g(f(b),b)", "g(f(G0),G0)"},
		// The variables are numbered in preorder.
		{"h(f(X),a,X)", "h(f(Y),b,Y)", "h(f(G0),G1,G0)"}, {"g(g(a,b),c)", "g(g(b,c),a)", "g(g(G0,G1),G2)"}, {"g(a,g(b,c))", "g(b,g(c,a))", "g(G0,g(G1,G2))"}, {"h(a,g(b,c),a)", "h(d,g(b,e),e)", "h(G0,g(b,G1),G2)"},
		// The terms contain the new variables themselves.
		{"G0", "G0", "G0"}, {"G1", "a", "G0"}, {"g(G1,G0)", "g(G1,G0)", "g(G0,G1)"}, {"g(G0,G1)", "g(G1,G0)", "g(G0,G1)"}, {"g(G0,a)", "g(a,G0)", "g(G0,G1)"}, {"h(a,G0,G0)", "h(b,G0,G0)", "h(G0,G1,G1)"}, {"h(a,G0,b)", "h(b,G1,a)", "h(G0,G1,G2)"}, {"h(G2,G1,G0)", "h(a,b,c)", "h(G0,G1,G2)"},
	} {
		g, ok := impl.Generalize(expr(c[0]), expr(c[1]))
		if !same(g, expr(c[2])) || !ok {
			t.Errorf("Generalize(%s, %s) = %s, %v", c[0], c[1], termText(g), ok)
		}
	}
	first, second, wanted := []impl.Term{}, []impl.Term{}, []impl.Term{}
	for i := range 22 {
		first, second, wanted = append(first, node("a"+strconv.Itoa(i))), append(second, node("b"+strconv.Itoa(i))), append(wanted, node("G"+strconv.Itoa(i)))
	}
	if g, ok := impl.Generalize(leaves(first...), leaves(second...)); !same(g, leaves(wanted...)) || !ok {
		t.Errorf("Generalize with 22 variables: %s, %v", termText(g), ok)
	}
}

// checkGeneralize tests one generalization against the definition.
func checkGeneralize(t *testing.T, a, b impl.Term) {
	t.Helper()
	g, ok := impl.Generalize(a, b)
	if a.Name == "=" || b.Name == "=" {
		if !isZero(g) || ok {
			t.Fatalf("Generalize(%s, %s) = %s, %v", termText(a), termText(b), termText(g), ok)
		}
		return
	}
	if want := plainGeneralize(a, b, &[][2]impl.Term{}); !same(g, want) || !ok || !impl.IsValidTerm(g) {
		t.Fatalf("Generalize(%s, %s) = %s, %v instead of %s", termText(a), termText(b), termText(g), ok, termText(want))
	}
	for _, e := range []impl.Term{a, b} {
		if !hasInstance(g, e) {
			t.Fatalf("%s is no instance of the generalization %s", termText(e), termText(g))
		}
		if isInstance, fine := impl.IsInstance(e, g); len(variablesOf(g)) <= impl.MaxBindings && (!isInstance || !fine) {
			t.Fatalf("IsInstance(%s, %s) = %v, %v", termText(e), termText(g), isInstance, fine)
		}
	}
	if other, fine := impl.Generalize(b, a); !same(other, g) || !fine {
		t.Fatalf("generalizing %s and %s in the other order gives %s instead of %s", termText(a), termText(b), termText(other), termText(g))
	}
}

func TestGeneralizationFollowsTheDefinition(t *testing.T) {
	for _, list := range [][]impl.Term{patterns(), smallTermsAndAtoms()} {
		for _, a := range list {
			for _, b := range list {
				checkGeneralize(t, a, b)
			}
		}
	}
	source := rand.New(rand.NewPCG(5, 7))
	for range 20000 {
		checkGeneralize(t, randomExpression(source), randomExpression(source))
	}
	for _, e := range patterns() {
		if e.Name == "=" {
			continue
		}
		g, _ := impl.Generalize(e, e)
		if r, _ := impl.RenameVariables(e, "G"); !same(g, r) {
			t.Errorf("generalizing %s with itself gives %s", termText(e), termText(g))
		}
	}
}

func TestGeneralizationsAreLeastGeneral(t *testing.T) {
	list, count := smallExpressions(4), 0
	for _, a := range list {
		for _, b := range list {
			g, _ := impl.Generalize(a, b)
			for _, pattern := range list {
				if !hasInstance(pattern, a) || !hasInstance(pattern, b) {
					continue
				}
				count++
				if !hasInstance(pattern, g) {
					t.Fatalf("%s is a generalization of %s and %s, but not of %s", termText(pattern), termText(a), termText(b), termText(g))
				}
			}
		}
	}
	if count < 5000 {
		t.Error("only", count, "generalizations")
	}
	// Two instances of a term have a generalization that is an instance of it, too.
	for _, pattern := range patterns() {
		if pattern.Name == "=" {
			continue
		}
		instances := []impl.Term{}
		for _, s := range substitutions() {
			if e, ok := impl.ApplySubstitution(s, pattern); ok {
				instances = append(instances, e)
			}
		}
		for i, a := range instances {
			b := instances[(i*7+3)%len(instances)]
			if g, ok := impl.Generalize(a, b); !ok || !hasInstance(pattern, g) {
				t.Fatalf("the generalization %s of %s and %s is no instance of %s", termText(g), termText(a), termText(b), termText(pattern))
			}
		}
	}
}

func TestRenameVariables(t *testing.T) {
	for _, c := range [][3]string{
		{"g(Y,g(Z,Y))", "V", "g(V0,g(V1,V0))"}, {"X", "V", "V0"}, {"a", "V", "a"}, {"f(a,b)", "V", "f(a,b)"}, {"f(X)", "A", "f(A0)"}, {"f(X)", "Z", "f(Z0)"}, {"g(X,X)", "V", "g(V0,V0)"}, {"g(X,Y)", "V", "g(V0,V1)"}, {"g(Y,X)", "V", "g(V0,V1)"},
		{"h(f(Z),X,Z,g(Y,X))", "Q", "h(f(Q0),Q1,Q0,g(Q2,Q1))"}, {"g(g(Z,Y),X)", "V", "g(g(V0,V1),V2)"}, {"X = f(Y)", "V", "V0 = f(V1)"}, {"f(Y) = Y", "V", "f(V0) = V0"}, {"a = b", "V", "a = b"}, {"g(Zab9,Zab)", "V", "g(V0,V1)"},
		// The expressions contain the new variables themselves.
		{"V0", "V", "V0"}, {"V1", "V", "V0"}, {"V", "V", "V0"}, {"g(V0,V1)", "V", "g(V0,V1)"}, {"g(V1,V0)", "V", "g(V0,V1)"}, {"h(V1,V2,V0)", "V", "h(V0,V1,V2)"}, {"h(V2,V0,V1,V2)", "V", "h(V0,V1,V2,V0)"}, {"g(X,V0)", "V", "g(V0,V1)"}, {"h(X,V1,V0,X)", "V", "h(V0,V1,V2,V0)"}, {"h(V,V0,V00,V1)", "V", "h(V0,V1,V2,V3)"},
		{"g(V0,v0)", "V", "g(V0,v0)"}, {"V1 = V0", "V", "V0 = V1"},
	} {
		r, ok := impl.RenameVariables(expr(c[0]), c[1])
		if !same(r, expr(c[2])) || !ok {
			t.Errorf("RenameVariables(%s, %s) = %s, %v", c[0], c[1], termText(r), ok)
		}
	}
	own, wanted := names(22), []string{}
	slices.Reverse(own)
	for i := range own {
		wanted = append(wanted, "V"+strconv.Itoa(i))
	}
	if r, ok := impl.RenameVariables(leaves(nodes(own...)...), "V"); !same(r, leaves(nodes(wanted...)...)) || !ok {
		t.Errorf("renaming 22 variables gives %s, %v", termText(r), ok)
	}
}

func TestRenamingsAreVariants(t *testing.T) {
	source, list := rand.New(rand.NewPCG(5, 8)), append(patterns(), smallTermsAndAtoms()...)
	for range 3000 {
		list = append(list, randomExpression(source))
	}
	for _, e := range list {
		r, ok := impl.RenameVariables(e, "C")
		if !same(r, canonical(e, map[string]string{})) || !ok {
			t.Fatalf("RenameVariables(%s, C) = %s, %v", termText(e), termText(r), ok)
		}
		if areVariants, fine := impl.AreVariants(e, r); len(variablesOf(e)) <= impl.MaxBindings && (!areVariants || !fine) || !hasInstance(e, r) || !hasInstance(r, e) {
			t.Fatalf("%s and its renaming %s are no variants", termText(e), termText(r))
		}
		other, _ := impl.RenameVariables(e, "X")
		if again, ok := impl.RenameVariables(other, "C"); !same(again, r) || !ok {
			t.Fatalf("renaming %s twice gives %s", termText(e), termText(again))
		}
		if again, ok := impl.RenameVariables(r, "C"); !same(again, r) || !ok {
			t.Fatalf("renaming %s again gives %s", termText(r), termText(again))
		}
	}
}

func TestPrefixes(t *testing.T) {
	list := append(stringsOver("aXY0_", 3), reservedWords...)
	for c := range 256 {
		s := string([]byte{byte(c)})
		list = append(list, s, s+"a", "X"+s, s+"X", s+s)
	}
	list = append(list, "\u00c4", "\u0391", "X\u00c4", strings.Repeat("X", 5000), "X0", "=", "$")
	for _, prefix := range list {
		for _, text := range []string{"X", "a", "g(Y,X)", "f(a)", "X = Y", "a = b"} {
			isLetter := len(prefix) == 1 && 'A' <= prefix[0] && prefix[0] <= 'Z'
			want := impl.Term{}
			if isLetter {
				want = expr(map[string]string{"X": "P0", "a": "a", "g(Y,X)": "g(P0,P1)", "f(a)": "f(a)", "X = Y": "P0 = P1", "a = b": "a = b"}[text])
				want = plainApply(map[string]impl.Term{"P0": node(prefix + "0"), "P1": node(prefix + "1")}, want)
			}
			if r, ok := impl.RenameVariables(expr(text), prefix); ok != isLetter || !same(r, want) {
				t.Fatalf("RenameVariables(%s, %q) = %v, %v", text, prefix, r, ok)
			}
		}
	}
}

func TestOtherTermsAreNotUnified(t *testing.T) {
	for i, e := range append(invalidTerms(), unboundedTerms()...) {
		for _, other := range []impl.Term{node("X"), node("a"), expr("f(a,X)"), expr("X = Y"), e} {
			for _, pair := range [][2]impl.Term{{e, other}, {other, e}} {
				if s, ok := impl.Unify(pair[0], pair[1]); !isEmptySub(s) || ok {
					t.Error("Unify:", i, e.Name, ok)
				}
				if position, ok := impl.Disagreement(pair[0], pair[1]); len(position) != 0 || ok {
					t.Error("Disagreement:", i, e.Name, position, ok)
				}
				if g, ok := impl.Generalize(pair[0], pair[1]); !isZero(g) || ok {
					t.Error("Generalize:", i, e.Name, ok)
				}
				for _, s := range []impl.Substitution{{}, sub("X:=a"), many(12, node("a"))} {
					if isEqual, ok := impl.IsUnifier(s, pair[0], pair[1]); isEqual || ok {
						t.Error("IsUnifier:", i, e.Name, isEqual, ok)
					}
				}
			}
		}
		for count := 1; count <= impl.MaxArity; count++ {
			for at := range count {
				list := slices.Repeat(nodes("X"), count)
				list[at] = e
				if s, ok := impl.UnifyAll(list); !isEmptySub(s) || ok {
					t.Error("UnifyAll:", i, e.Name, count, at, ok)
				}
			}
		}
		for _, name := range []string{"X", "Y", "Xabc", "a", ""} {
			if occurs, ok := impl.OccursIn(name, e); occurs || ok {
				t.Error("OccursIn:", i, e.Name, occurs, ok)
			}
		}
		for _, prefix := range []string{"V", "X", "v", ""} {
			if r, ok := impl.RenameVariables(e, prefix); !isZero(r) || ok {
				t.Error("RenameVariables:", i, e.Name, ok)
			}
		}
	}
}

func TestEqualitiesAreNotGeneralized(t *testing.T) {
	for _, text := range []string{"a = b", "X = X", "f(X) = Y"} {
		for _, other := range patterns() {
			for _, pair := range [][2]impl.Term{{expr(text), other}, {other, expr(text)}, {expr(text), expr(text)}} {
				if g, ok := impl.Generalize(pair[0], pair[1]); !isZero(g) || ok {
					t.Errorf("Generalize(%s, %s) = %s, %v", termText(pair[0]), termText(pair[1]), termText(g), ok)
				}
			}
		}
	}
}

func TestInvalidSubstitutionsAreNoUnifiers(t *testing.T) {
	for i, s := range invalidSubstitutions() {
		for _, pair := range [][2]string{{"a", "a"}, {"X", "X"}, {"X", "a"}, {"f(X)", "f(Y)"}, {"a = b", "a = b"}} {
			if isEqual, ok := impl.IsUnifier(s, expr(pair[0]), expr(pair[1])); isEqual || ok {
				t.Error("IsUnifier:", i, pair, isEqual, ok)
			}
		}
	}
}

// listWithRoom copies a list of Terms so that it has elements beyond its length. They would be
// no expressions.
func listWithRoom(list ...impl.Term) []impl.Term {
	room := []impl.Term{}
	for _, e := range list {
		room = append(room, withRoom(e))
	}
	return append(room, node("Beyond"), node("Beyond"))[:len(list)]
}

// isListKept reports whether r is still as listWithRoom has made it from list.
func isListKept(r []impl.Term, list ...impl.Term) bool {
	beyond := r[:len(r)+2][len(r):]
	return slices.EqualFunc(r, list, same) && slices.EqualFunc(beyond, nodes("Beyond", "Beyond"), same) &&
		!slices.ContainsFunc(r, func(e impl.Term) bool { return !roomIsKept(e) })
}

func spoilList(list []impl.Term) {
	for i := range list[:cap(list)] {
		spoil(&list[:cap(list)][i])
	}
}

func TestUnifiedArgumentsAreNotChanged(t *testing.T) {
	list, subs := append(patterns(), node("f", node("=", node("X"), node("X"))), bush(31)), append(substitutions(), sub("X:=X"), many(13, node("a")))
	for i, a := range list {
		for j, b := range list {
			all, s := listWithRoom(a, b, list[(i*5+j)%len(list)], list[(i+j*3)%len(list)]), subs[(i*3+j)%len(subs)]
			other := subWithRoom(s)
			impl.Unify(all[0], all[1])
			impl.UnifyAll(all)
			impl.UnifyAll(all[:2])
			impl.IsUnifier(other, all[0], all[1])
			impl.Disagreement(all[0], all[1])
			impl.OccursIn("X", all[0])
			impl.Generalize(all[0], all[1])
			impl.RenameVariables(all[0], "V")
			if !isListKept(all, a, b, list[(i*5+j)%len(list)], list[(i+j*3)%len(list)]) || !isKept(other, s) {
				t.Fatalf("%s, %s or {%s} is changed", termText(a), termText(b), subText(s))
			}
		}
	}
}

func TestUnifiedElementsBeyondTheLengthAreNotRead(t *testing.T) {
	list := patterns()
	for i, a := range list {
		checkUnify(t, withRoom(a), a)
		if r, ok := impl.RenameVariables(withRoom(a), "C"); !same(r, canonical(a, map[string]string{})) || !ok {
			t.Errorf("renaming %s gives %s, %v", termText(a), termText(r), ok)
		}
		for _, name := range []string{"Beyond", "X"} {
			if occurs, ok := impl.OccursIn(name, withRoom(a)); occurs && name != "X" || ok != (name == "X") {
				t.Errorf("OccursIn(%s, %s) = %v, %v", name, termText(a), occurs, ok)
			}
		}
		for j, b := range list {
			c := list[(i*7+j)%len(list)]
			checkUnify(t, withRoom(a), withRoom(b))
			checkGeneralize(t, withRoom(a), withRoom(b))
			want, exists := plainUnifyAll([]impl.Term{a, b, c})
			if s, ok := impl.UnifyAll(listWithRoom(a, b, c)); ok != exists || !sameSub(s, want) {
				t.Fatalf("UnifyAll of %s, %s and %s gives {%s}, %v", termText(a), termText(b), termText(c), subText(s), ok)
			}
			if position, ok := impl.Disagreement(withRoom(a), b); ok == same(a, b) || !ok && len(position) != 0 {
				t.Fatalf("Disagreement(%s, %s) = %v, %v", termText(a), termText(b), position, ok)
			}
		}
	}
}

func TestUnificationResultsAreInNewMemory(t *testing.T) {
	list := patterns()
	for i, a := range list {
		checkNewTerm(t, func() (impl.Term, func() bool, func()) {
			all := listWithRoom(a)
			r, _ := impl.RenameVariables(all[0], "V")
			return r, func() bool { return isListKept(all, a) }, func() { spoilList(all) }
		})
		for j, b := range list {
			c := list[(i*7+j)%len(list)]
			checkNewSub(t, func() (impl.Substitution, func() bool, func()) {
				all := listWithRoom(a, b)
				r, _ := impl.Unify(all[0], all[1])
				return r, func() bool { return isListKept(all, a, b) }, func() { spoilList(all) }
			})
			checkNewSub(t, func() (impl.Substitution, func() bool, func()) {
				all := listWithRoom(a, b, c)
				r, _ := impl.UnifyAll(all)
				return r, func() bool { return isListKept(all, a, b, c) }, func() { spoilList(all) }
			})
			checkNewTerm(t, func() (impl.Term, func() bool, func()) {
				all := listWithRoom(a, b)
				r, _ := impl.Generalize(all[0], all[1])
				return r, func() bool { return isListKept(all, a, b) }, func() { spoilList(all) }
			})
		}
	}
}

func TestPartsOfUnificationResultsAreSeparate(t *testing.T) {
	// The arguments use the same memory in many places.
	one := node("g", node("f", node("Z")), node("a"))
	two := node("g", one, one)
	for depth := range 3 {
		for _, pair := range [][2]impl.Term{
			{expr("h(X,Y,W)"), node("h", one, one, two)}, {node("h", one, one, two), expr("h(X,Y,W)")}, {node("h", node("X"), node("X"), node("Y")), node("h", one, node("W"), two)},
			{expr("h(X,Y,g(X,Y),Z)"), node("h", one, one, node("W"), node("V"))}, {expr("h(f(X),Y,X)"), node("h", node("W"), node("g", node("X"), node("W")), one)}, {node("X"), two}, {expr("X = Y"), node("=", one, two)},
		} {
			s, ok := impl.Unify(pair[0], pair[1])
			all, fine := impl.UnifyAll(pair[:])
			if !ok || !fine || len(s.Bindings) == 0 {
				t.Fatalf("unifying %s with %s: %v, %v", termText(pair[0]), termText(pair[1]), ok, fine)
			}
			checkSeparate(t, "Unify and UnifyAll", append(partsOf(s, depth), partsOf(all, depth)...)...)
		}
		all, _ := impl.UnifyAll([]impl.Term{expr("h(X,X,Y)"), node("h", one, node("W"), node("V")), node("h", node("A"), node("B"), one)})
		checkSeparate(t, "UnifyAll", partsOf(all, depth)...)
		for _, e := range []impl.Term{two, node("h", one, one, node("X")), node("g", two, one)} {
			g, _ := impl.Generalize(e, e)
			r, _ := impl.RenameVariables(e, "V")
			checkSeparate(t, "Generalize", partsOf(subOf(bind("X", g)), depth+1)...)
			checkSeparate(t, "RenameVariables", partsOf(subOf(bind("X", r)), depth+1)...)
		}
		r, _ := impl.RenameVariables(node("=", two, two), "V")
		checkSeparate(t, "RenameVariables", partsOf(subOf(bind("X", r)), depth+1)...)
	}
}

func TestCallsKeepNothing(t *testing.T) {
	a, b := expr("h(X,f(Y),Z)"), expr("h(f(Z),W,a)")
	for range 3 {
		s, _ := impl.Unify(a, b)
		position, _ := impl.Disagreement(a, b)
		g, _ := impl.Generalize(a, b)
		r, _ := impl.RenameVariables(a, "V")
		if subText(s) != "W:=f(Y);X:=f(a);Z:=a" || !slices.Equal(position, []int{0}) || termText(g) != "h(G0,G1,G2)" || termText(r) != "h(V0,f(V1),V2)" {
			t.Fatal(subText(s), position, termText(g), termText(r))
		}
		spoilSub(&s)
		position[0] = -1
		spoil(&g)
		spoil(&r)
	}
}
