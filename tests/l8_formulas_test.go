package tests

import (
	"maps"
	"math"
	"math/rand/v2"
	"reflect"
	"slices"
	"strconv"
	"strings"
	"testing"

	"loop.example/g00892/impl"
)

// formula is the valid formula with the given text.
func formula(s string) impl.Formula {
	f, ok := impl.ParseFormula(s)
	if !ok {
		panic("no formula: " + s)
	}
	return f
}

func constant(op int) impl.Formula {
	return impl.Formula{Op: op}
}

func atomic(e impl.Term) impl.Formula {
	return impl.Formula{Op: impl.OpAtom, Atom: e}
}

func negated(f impl.Formula) impl.Formula {
	return impl.Formula{Op: impl.OpNot, Parts: []impl.Formula{f}}
}

func joined(op int, f, g impl.Formula) impl.Formula {
	return impl.Formula{Op: op, Parts: []impl.Formula{f, g}}
}

func quantified(op int, name string, f impl.Formula) impl.Formula {
	return impl.Formula{Op: op, Var: name, Parts: []impl.Formula{f}}
}

var (
	binaryOps = []int{impl.OpAnd, impl.OpOr, impl.OpImplies}
	quantOps  = []int{impl.OpAll, impl.OpExists}
)

func isQuantifier(f impl.Formula) bool {
	return f.Op == impl.OpAll || f.Op == impl.OpExists
}

func isZeroFormula(f impl.Formula) bool {
	return f.Op == 0 && isZero(f.Atom) && f.Var == "" && len(f.Parts) == 0
}

func sameFormula(f, g impl.Formula) bool {
	return f.Op == g.Op && same(f.Atom, g.Atom) && f.Var == g.Var && slices.EqualFunc(f.Parts, g.Parts, sameFormula)
}

func cloneFormula(f impl.Formula) impl.Formula {
	r := impl.Formula{Op: f.Op, Atom: clone(f.Atom), Var: f.Var}
	for _, part := range f.Parts {
		r.Parts = append(r.Parts, cloneFormula(part))
	}
	return r
}

// The definitions of the document, written down once more.

// formulaText is the text of a formula. In invalid formulas it has question marks.
func formulaText(f impl.Formula) string {
	parts := []string{}
	for _, part := range f.Parts {
		parts = append(parts, formulaText(part))
	}
	signs := map[int]string{impl.OpAnd: " & ", impl.OpOr: " | ", impl.OpImplies: " => "}
	words := map[int]string{impl.OpAll: "all ", impl.OpExists: "some "}
	switch {
	case f.Op == impl.OpTrue:
		return "true"
	case f.Op == impl.OpFalse:
		return "false"
	case f.Op == impl.OpAtom:
		return termText(f.Atom)
	case f.Op == impl.OpNot && len(parts) == 1 && f.Parts[0].Op == impl.OpAtom && f.Parts[0].Atom.Name == "=":
		return "~(" + parts[0] + ")"
	case f.Op == impl.OpNot && len(parts) == 1:
		return "~" + parts[0]
	case signs[f.Op] != "" && len(parts) == 2:
		return "(" + parts[0] + signs[f.Op] + parts[1] + ")"
	case words[f.Op] != "" && len(parts) == 1:
		return words[f.Op] + f.Var + "." + parts[0]
	}
	return "?"
}

func plainSize(f impl.Formula) int {
	size := 1
	for _, part := range f.Parts {
		size += plainSize(part)
	}
	return size
}

// hasProperForm reports whether the fields of f itself are those of one of the forms.
func hasProperForm(f impl.Formula) bool {
	switch f.Op {
	case impl.OpTrue, impl.OpFalse:
		return isZero(f.Atom) && f.Var == "" && len(f.Parts) == 0
	case impl.OpAtom:
		return impl.IsValidAtom(f.Atom) && f.Var == "" && len(f.Parts) == 0
	case impl.OpNot:
		return isZero(f.Atom) && f.Var == "" && len(f.Parts) == 1
	case impl.OpAnd, impl.OpOr, impl.OpImplies:
		return isZero(f.Atom) && f.Var == "" && len(f.Parts) == 2
	case impl.OpAll, impl.OpExists:
		return isZero(f.Atom) && variableName.MatchString(f.Var) && len(f.Parts) == 1
	}
	return false
}

// isProperFormula reports whether a finite Formula is valid.
func isProperFormula(f impl.Formula) bool {
	proper := hasProperForm(f) && plainSize(f) <= 40
	for _, part := range f.Parts {
		proper = proper && isProperFormula(part)
	}
	return proper
}

// mentions reports whether the variable occurs in the expression.
func mentions(e impl.Term, name string) bool {
	return e.Name == name || slices.ContainsFunc(e.Args, func(arg impl.Term) bool { return mentions(arg, name) })
}

func plainFree(f impl.Formula) []string {
	set := map[string]bool{}
	if f.Op == impl.OpAtom {
		for _, name := range namesInOrder(clauseOf(yes(f.Atom))) {
			set[name] = true
		}
	}
	for _, part := range f.Parts {
		for _, name := range plainFree(part) {
			set[name] = true
		}
	}
	if isQuantifier(f) {
		delete(set, f.Var)
	}
	return slices.Sorted(maps.Keys(set))
}

// replaceFree replaces free occurrences, whether variables are captured or not.
func replaceFree(f impl.Formula, name string, e impl.Term) impl.Formula {
	if isQuantifier(f) && f.Var == name {
		return f
	}
	r := impl.Formula{Op: f.Op, Atom: plainApply(map[string]impl.Term{name: e}, f.Atom), Var: f.Var}
	for _, part := range f.Parts {
		r.Parts = append(r.Parts, replaceFree(part, name, e))
	}
	return r
}

func isCaptured(f impl.Formula, name string, e impl.Term) bool {
	if isQuantifier(f) && mentions(e, f.Var) && slices.Contains(plainFree(f), name) {
		return true
	}
	return !(isQuantifier(f) && f.Var == name) && slices.ContainsFunc(f.Parts, func(part impl.Formula) bool { return isCaptured(part, name, e) })
}

func plainSubstitute(f impl.Formula, name string, e impl.Term) (impl.Formula, bool) {
	r := replaceFree(f, name, e)
	if isCaptured(f, name, e) || !isProperFormula(r) {
		return impl.Formula{}, false
	}
	return r, true
}

// plainAlpha gives each pair of corresponding quantifiers a name of its own.
func plainAlpha(f, g impl.Formula, depth int) bool {
	if f.Op != g.Op || !same(f.Atom, g.Atom) {
		return false
	}
	if isQuantifier(f) {
		own := node("#" + strconv.Itoa(depth))
		return plainAlpha(replaceFree(f.Parts[0], f.Var, own), replaceFree(g.Parts[0], g.Var, own), depth+1)
	}
	return slices.EqualFunc(f.Parts, g.Parts, func(p, q impl.Formula) bool { return plainAlpha(p, q, depth) })
}

func plainClose(f impl.Formula) impl.Formula {
	free := plainFree(f)
	for len(free) > 0 {
		f = quantified(impl.OpAll, free[len(free)-1], f)
		free = free[:len(free)-1]
	}
	return f
}

// pushed moves the negations of f, or of its negation, to the atoms. Every strong quantifier
// becomes an OpAll there, and every weak one an OpExists.
func pushed(f impl.Formula, isNegated bool) impl.Formula {
	parts := []impl.Formula{}
	for i, part := range f.Parts {
		opposite := f.Op == impl.OpNot || f.Op == impl.OpImplies && i == 0
		parts = append(parts, pushed(part, isNegated != opposite))
	}
	switch {
	case f.Op == impl.OpNot:
		return parts[0]
	case f.Op == impl.OpAnd && isNegated || f.Op == impl.OpOr && !isNegated || f.Op == impl.OpImplies && !isNegated:
		return joined(impl.OpOr, parts[0], parts[1])
	case len(parts) == 2:
		return joined(impl.OpAnd, parts[0], parts[1])
	case isQuantifier(f) && (f.Op == impl.OpAll) != isNegated:
		return quantified(impl.OpAll, f.Var, parts[0])
	case isQuantifier(f):
		return quantified(impl.OpExists, f.Var, parts[0])
	case isNegated:
		return negated(f)
	}
	return f
}

func plainCount(f impl.Formula, op int) int {
	count := 0
	if f.Op == op {
		count++
	}
	for _, part := range f.Parts {
		count += plainCount(part, op)
	}
	return count
}

func plainFormulaOf(c impl.Clause) (impl.Formula, bool) {
	var disjunction func(list []impl.Literal) impl.Formula
	disjunction = func(list []impl.Literal) impl.Formula {
		if len(list) == 0 {
			return constant(impl.OpFalse)
		}
		first := atomic(list[0].Atom)
		if !list[0].Positive {
			first = negated(first)
		}
		if len(list) == 1 {
			return first
		}
		return joined(impl.OpOr, first, disjunction(list[1:]))
	}
	f := plainClose(disjunction(c.Literals))
	if !isProperFormula(f) {
		return impl.Formula{}, false
	}
	return f, true
}

// holds evaluates a formula whose free variables are assigned.
func (m model) holds(f impl.Formula, assignment map[string]int) bool {
	switch f.Op {
	case impl.OpTrue, impl.OpFalse:
		return f.Op == impl.OpTrue
	case impl.OpAtom:
		return m.satisfies(yes(f.Atom), assignment)
	case impl.OpNot:
		return !m.holds(f.Parts[0], assignment)
	case impl.OpAnd:
		return m.holds(f.Parts[0], assignment) && m.holds(f.Parts[1], assignment)
	case impl.OpOr:
		return m.holds(f.Parts[0], assignment) || m.holds(f.Parts[1], assignment)
	case impl.OpImplies:
		return !m.holds(f.Parts[0], assignment) || m.holds(f.Parts[1], assignment)
	}
	inner := map[string]int{}
	maps.Copy(inner, assignment)
	for element := range m.size {
		inner[f.Var] = element
		if isExists := f.Op == impl.OpExists; m.holds(f.Parts[0], inner) == isExists {
			return isExists
		}
	}
	return f.Op == impl.OpAll
}

// assignments lists all assignments of the elements of m to the variables.
func (m model) assignments(variables []string) []map[string]int {
	list := []map[string]int{{}}
	for _, name := range variables {
		longer := []map[string]int{}
		for _, assignment := range list {
			for element := range m.size {
				extended := maps.Clone(assignment)
				extended[name] = element
				longer = append(longer, extended)
			}
		}
		list = longer
	}
	return list
}

// randomFormula has at most the given size, atoms over few symbols and the given leaves, and binds
// X, Y and Z.
func randomFormula(source *rand.Rand, size int, leaves ...string) impl.Formula {
	switch i := source.IntN(10); {
	case size < 2 || i == 0:
		if op := source.IntN(12); op == impl.OpTrue || op == impl.OpFalse {
			return constant(op)
		}
		return atomic(literalOver(source, leaves).Atom)
	case i < 3:
		return negated(randomFormula(source, size-1, leaves...))
	case i < 6 || size < 3:
		return quantified(quantOps[source.IntN(2)], "XYZ"[source.IntN(3):][:1], randomFormula(source, size-1, leaves...))
	}
	first := 1 + source.IntN(size-2)
	return joined(binaryOps[source.IntN(3)], randomFormula(source, first, leaves...), randomFormula(source, size-1-first, leaves...))
}

// smallFormulas lists formulas in which forms are nested at most the given number of times.
func smallFormulas(depth int) []impl.Formula {
	list := []impl.Formula{constant(impl.OpTrue), constant(impl.OpFalse), atomic(node("r")), atomic(node("p", node("X"))), atomic(node("=", node("X"), node("Y"))), atomic(node("q", node("Y"), node("a")))}
	for from := 0; depth > 0; depth-- {
		all := slices.Clone(list)
		for i, f := range all {
			if i >= from {
				list = append(list, negated(f), quantified(impl.OpAll, "X", f), quantified(impl.OpAll, "Y", f), quantified(impl.OpExists, "X", f), quantified(impl.OpExists, "Y", f))
			}
			for j, g := range all {
				for k, op := range binaryOps {
					// Beyond the first level, all pairs would be too many.
					if (i >= from || j >= from) && (from == 0 || (i+j+k)%7 == 0) {
						list = append(list, joined(op, f, g))
					}
				}
			}
		}
		from = len(all)
	}
	return list
}

// chainOf is a formula of the given size without choice: each form contains the next one.
func chainOf(size int, last impl.Formula, wrap func(i int, f impl.Formula) impl.Formula) impl.Formula {
	for i := 0; plainSize(last) < size; i++ {
		last = wrap(i, last)
	}
	return last
}

// formulasOfSize lists formulas of one size and different forms.
func formulasOfSize(size int) []impl.Formula {
	r := atomic(node("r"))
	list := []impl.Formula{
		chainOf(size, r, func(i int, f impl.Formula) impl.Formula { return negated(f) }),
		chainOf(size, atomic(node("p", node("X"))), func(i int, f impl.Formula) impl.Formula { return quantified(quantOps[i%2], "X", f) }),
		chainOf(size, atomic(node("=", node("X"), node("Y"))), func(i int, f impl.Formula) impl.Formula {
			return quantified(quantOps[i%2], "V"+strconv.Itoa(i), f)
		}),
		chainOf(size, constant(impl.OpTrue), func(i int, f impl.Formula) impl.Formula {
			if plainSize(f) == size-1 {
				return negated(f)
			}
			return joined(binaryOps[i%3], r, f)
		}),
		chainOf(size, constant(impl.OpFalse), func(i int, f impl.Formula) impl.Formula {
			if plainSize(f) == size-1 {
				return quantified(impl.OpAll, "X", f)
			}
			return joined(binaryOps[i%3], f, atomic(node("=", node("a"), node("b"))))
		}),
	}
	return append(list, balanced(size))
}

// balanced is a formula of the given size that is as flat as possible.
func balanced(size int) impl.Formula {
	switch {
	case size < 2:
		return atomic(node("p", node("X")))
	case size == 2:
		return negated(balanced(1))
	}
	return joined(binaryOps[size%3], balanced(size/2), balanced(size-1-size/2))
}

// formulas lists valid formulas, among them the greatest ones.
func formulas() []impl.Formula {
	list := smallFormulas(1)
	for _, e := range expressions() {
		if impl.IsValidAtom(e) {
			list = append(list, atomic(e), negated(atomic(e)), quantified(impl.OpAll, "X", atomic(e)), joined(impl.OpAnd, atomic(e), negated(negated(atomic(e)))))
		}
	}
	for size := 1; size <= impl.MaxFormulaSize; size++ {
		list = append(list, formulasOfSize(size)...)
	}
	for _, text := range []string{
		"all X.(p(X) => ~r)", "some X.q(X,Y)", "(p(X) & all X.p(X))", "(all X.p(X) & p(X))", "all X.all X.p(X)", "all X.(p(X) & some X.q(X,Y))", "(all X.p(X) => all X.p(X))", "all X.r", "some Zab9.true", "all X.some Y.(q(X,Y) => ~(X = Y))",
		"((p(X) & ~~q(Y,Z)) | ~(some Z.s(Z) => a = f(X)))", "~all X.~some Y.~(f(X) = Y)", "~(a = b => ~(a = b))",
	} {
		list = append(list, formula(text))
	}
	return append(list, longFormula(impl.MaxString), longFormula(1000))
}

// atomOfLength is an atom whose text has the given number of bytes, from 70 to 217.
func atomOfLength(length int) impl.Term {
	e := clone(greatLiteral(0).Atom)
	surplus := len(termText(e)) - length
	var shorten func(e *impl.Term)
	shorten = func(e *impl.Term) {
		cut := min(surplus, len(e.Name)-1)
		e.Name = e.Name[:len(e.Name)-cut]
		surplus -= cut
		for i := range e.Args {
			shorten(&e.Args[i])
		}
	}
	shorten(&e)
	return e
}

// longFormula is a formula whose text has the given number of bytes, from 200 to 4400, and which
// has at most 39 formulas.
func longFormula(length int) impl.Formula {
	count := min(20, length/200+1)
	rest := length - (count-1)*len("( & )")
	f := atomic(atomOfLength(rest / count))
	for ; count > 1; count-- {
		rest -= rest / count
		f = joined(binaryOps[count%2], atomic(atomOfLength(rest/(count-1))), f)
	}
	return f
}

// withForms puts f into the other forms, at each place and deeper.
func withForms(f impl.Formula) []impl.Formula {
	r := atomic(node("r"))
	list := []impl.Formula{f, negated(f), negated(negated(f)), negated(joined(impl.OpOr, r, f))}
	for _, op := range binaryOps {
		list = append(list, joined(op, f, r), joined(op, r, f), joined(op, f, f))
	}
	for _, op := range quantOps {
		list = append(list, quantified(op, "X", f), quantified(op, "Zab9", negated(f)))
	}
	return list
}

// malformed lists finite Formulas of few formulas that have none of the forms themselves.
func malformed() []impl.Formula {
	r, p := atomic(node("r")), atomic(node("p", node("X")))
	list := []impl.Formula{{}, {Parts: []impl.Formula{r}}, {Var: "X"}, {Atom: node("r")}, {Var: "X", Parts: []impl.Formula{p}}}
	for _, op := range []int{-1, 10, 11, 12, 100, 256 + impl.OpTrue, -impl.OpTrue, math.MinInt, math.MaxInt, 1 << 32, 1<<32 + impl.OpFalse} {
		list = append(list, constant(op), impl.Formula{Op: op, Atom: node("r")}, negated(constant(op)), impl.Formula{Op: op, Parts: []impl.Formula{r}}, impl.Formula{Op: op, Parts: []impl.Formula{r, p}}, quantified(op, "X", p))
	}
	for op := impl.OpTrue; op <= impl.OpExists; op++ {
		for count := range 5 {
			for _, name := range []string{"", "X", "x"} {
				for _, e := range []impl.Term{{}, node("r"), node("X"), node("", node("a")), node("=")} {
					f := impl.Formula{Op: op, Atom: e, Var: name, Parts: slices.Repeat([]impl.Formula{p}, count)}
					if !hasProperForm(f) {
						list = append(list, f)
					}
				}
			}
		}
	}
	return list
}

// invalidFormulas lists finite Formulas that are not valid, for each reason and at each place.
func invalidFormulas() []impl.Formula {
	list := []impl.Formula{}
	for _, f := range malformed() {
		list = append(list, withForms(f)...)
	}
	for _, e := range append(invalidTerms(), node("X"), node("X0"), node("Zab9")) {
		list = append(list, withForms(atomic(e))...)
	}
	for _, name := range append([]string{"", "x", "a", "XY", "X_", "Xabcd", "X ", " X", "X.", "=", "1", "all", "X\x00", "\u00c9"}, reservedWords...) {
		list = append(list, withForms(quantified(impl.OpAll, name, atomic(node("r"))))...)
		list = append(list, quantified(impl.OpExists, name, quantified(impl.OpExists, "X", constant(impl.OpTrue))))
	}
	for _, size := range []int{41, 42, 80, 1000} {
		list = append(list, formulasOfSize(size)...)
	}
	for op := impl.OpTrue; op <= impl.OpExists; op++ {
		list = append(list, impl.Formula{Op: op, Parts: make([]impl.Formula, 1000000)})
	}
	return list
}

// unboundedFormulas lists invalid Formulas that contain themselves, or have too many formulas to
// visit.
func unboundedFormulas() []impl.Formula {
	list := []impl.Formula{}
	for op := impl.OpTrue; op <= impl.OpExists; op++ {
		for _, count := range []int{1, 2, 50} {
			ring := make([]impl.Formula, count)
			for i := range ring {
				ring[i] = impl.Formula{Op: op, Parts: ring}
				if op >= impl.OpAll {
					ring[i].Var = "X"
				}
			}
			list = append(list, ring[0], negated(ring[0]))
		}
	}
	one, deep := atomic(node("r")), atomic(node("r"))
	for range 200 {
		one = joined(impl.OpAnd, one, one)
	}
	for range 200000 {
		deep = negated(deep)
	}
	list = append(list, one, quantified(impl.OpAll, "X", one), deep)
	for _, e := range unboundedTerms() {
		list = append(list, atomic(e), negated(atomic(e)), joined(impl.OpOr, atomic(node("r")), atomic(e)), impl.Formula{Op: impl.OpTrue, Atom: e})
	}
	return list
}

func TestFormulaExamples(t *testing.T) {
	x, y := node("X"), node("Y")
	if f, ok := impl.SubstituteFormula(quantified(impl.OpExists, "X", atomic(node("q", x, y))), "Y", node("f", x)); !isZeroFormula(f) || ok {
		t.Errorf("substituting Y by f(X) in some X.q(X,Y): %s, %v", formulaText(f), ok)
	}
	if yes, ok := impl.AlphaEqual(quantified(impl.OpAll, "X", atomic(node("p", x))), quantified(impl.OpAll, "Y", atomic(node("p", y)))); !yes || !ok {
		t.Error("all X.p(X) and all Y.p(Y):", yes, ok)
	}
	want := quantified(impl.OpAll, "X", joined(impl.OpImplies, atomic(node("p", x)), negated(atomic(node("r")))))
	if f, ok := impl.ParseFormula("all X.(p(X) => ~r)"); !sameFormula(f, want) || !ok {
		t.Errorf("all X.(p(X) => ~r) is %v, %v", f, ok)
	}
	equality := negated(atomic(node("=", node("a"), node("b"))))
	if text, ok := impl.FormatFormula(equality); text != "~(a = b)" || !ok {
		t.Errorf("~(a = b) is %q, %v", text, ok)
	}
	if f, ok := impl.ParseFormula("~(a = b)"); !sameFormula(f, equality) || !ok {
		t.Errorf("~(a = b) is %v, %v", f, ok)
	}
}

func TestOps(t *testing.T) {
	ops := []int{impl.OpTrue, impl.OpFalse, impl.OpAtom, impl.OpNot, impl.OpAnd, impl.OpOr, impl.OpImplies, impl.OpAll, impl.OpExists}
	if !slices.Equal(ops, []int{1, 2, 3, 4, 5, 6, 7, 8, 9}) || impl.MaxFormulaSize != 40 {
		t.Error(ops, impl.MaxFormulaSize)
	}
}

func TestLimitOfFormulas(t *testing.T) {
	for size := 1; size <= 60; size++ {
		for i, f := range formulasOfSize(size) {
			if plainSize(f) != size {
				t.Fatalf("the formula %d has the size %d instead of %d", i, plainSize(f), size)
			}
			fits := size <= 40
			if impl.IsValidFormula(f) != fits {
				t.Errorf("%s of size %d is valid: %v", formulaText(f), size, !fits)
			}
			if n, ok := impl.FormulaSize(f); ok != fits || ok && n != size || !ok && n != 0 {
				t.Errorf("the size of %s is %d, %v", formulaText(f), n, ok)
			}
		}
	}
}

func TestFormsOfFormulas(t *testing.T) {
	r := atomic(node("r"))
	counts := map[bool]int{}
	for op := -2; op <= 12; op++ {
		for count := range 6 {
			for _, name := range []string{"", "X", "Zab9", "x", "XY", "a", "=", "Xabcd"} {
				for _, e := range []impl.Term{{}, {Args: []impl.Term{}}, node("r"), node("p", node("X")), node("=", node("X"), node("a")), node("X"), node("="), node("", node("a")), node("true"), node("f", node("X", node("a")))} {
					f := impl.Formula{Op: op, Atom: e, Var: name, Parts: slices.Repeat([]impl.Formula{r}, count)}
					want := hasProperForm(f)
					if impl.IsValidFormula(f) != want || impl.IsValidFormula(negated(f)) != want || impl.IsValidFormula(joined(impl.OpOr, r, f)) != want {
						t.Fatalf("Op %d, %d parts, the variable %q and the atom %v: not %v", op, count, name, e, want)
					}
					counts[want]++
				}
			}
		}
	}
	if counts[true] < 20 || counts[false] < 1000 {
		t.Error("the numbers of results are", counts)
	}
}

func TestValidFormulas(t *testing.T) {
	for _, f := range append(formulas(), smallFormulas(2)...) {
		if !isProperFormula(f) || !impl.IsValidFormula(f) {
			t.Errorf("%s is invalid", formulaText(f))
		}
	}
	for i, f := range invalidFormulas() {
		if isProperFormula(f) || impl.IsValidFormula(f) {
			t.Errorf("%d: %s is valid", i, formulaText(f))
		}
	}
	for i, f := range unboundedFormulas() {
		if impl.IsValidFormula(f) {
			t.Errorf("%d: an unbounded formula is valid", i)
		}
	}
}

func TestBoundVariableNames(t *testing.T) {
	for _, name := range possibleNames() {
		want := variableName.MatchString(name)
		for _, op := range quantOps {
			if impl.IsValidFormula(quantified(op, name, atomic(node("r")))) != want {
				t.Fatalf("the bound variable %q", name)
			}
		}
		if f, ok := impl.ParseFormula("some " + name + ".r"); ok != want || ok && f.Var != name {
			t.Fatalf("the bound variable %q of a text: %v, %v", name, f, ok)
		}
	}
}

func TestFormulaSize(t *testing.T) {
	for text, want := range map[string]int{
		"true": 1, "false": 1, "r": 1, "p(f(f(a)))": 1, "a = b": 1, "~r": 2, "~(a = b)": 2, "~~r": 3, "(r & r)": 3, "(r | ~r)": 4, "(r => (r => r))": 5, "all X.r": 2, "all X.some Y.q(X,Y)": 3, "all X.(p(X) => ~r)": 5,
	} {
		if n, ok := impl.FormulaSize(formula(text)); n != want || !ok {
			t.Errorf("the size of %s is %d, %v", text, n, ok)
		}
	}
	for _, f := range formulas() {
		if n, ok := impl.FormulaSize(f); n != plainSize(f) || !ok {
			t.Errorf("the size of %s is %d, %v", formulaText(f), n, ok)
		}
	}
}

func TestFreeVariables(t *testing.T) {
	for text, want := range map[string][]string{
		"true": nil, "r": nil, "p(a)": nil, "p(X)": {"X"}, "q(Y,X)": {"X", "Y"}, "Y = X": {"X", "Y"}, "~(Y = f(A))": {"A", "Y"}, "some X.q(X,Y)": {"Y"}, "all X.p(X)": nil, "all X.r": nil, "all X.p(Y)": {"Y"}, "some Y.q(X,Y)": {"X"},
		"(p(X) & all X.p(X))": {"X"}, "(all X.p(X) & p(X))": {"X"}, "(all X.p(X) | all X.p(X))": nil, "all X.(p(X) => all X.p(X))": nil, "all X.(all X.p(X) => p(X))": nil, "all X.all X.q(X,Y)": {"Y"}, "(all X.p(Y) & all Y.p(X))": {"X", "Y"},
		"all X.(p(Y) & all Y.(p(X) & p(Z)))": {"Y", "Z"}, "(r(Z,Y,X) => ~some Z.r(Z,B,A))": {"A", "B", "X", "Y", "Z"}, "q(X2,X10)": {"X10", "X2"}, "(p(X) & (p(X) & p(X)))": {"X"}, "(all Y.p(Y) & (p(Y) & all Y.p(Y)))": {"Y"}, "all Xa.q(X,Xa)": {"X"},
	} {
		if list, ok := impl.FreeVariables(formula(text)); !slices.Equal(list, want) || !ok {
			t.Errorf("the free variables of %s are %q, %v", text, list, ok)
		}
	}
	list, source, counts := append(formulas(), smallFormulas(2)...), rand.New(rand.NewPCG(8, 1)), [4]int{}
	for range 5000 {
		list = append(list, randomFormula(source, 1+source.IntN(15), "X", "Y", "Z", "a"))
	}
	for _, f := range list {
		list, ok := impl.FreeVariables(f)
		if !slices.Equal(list, plainFree(f)) || !ok {
			t.Fatalf("the free variables of %s are %q, %v", formulaText(f), list, ok)
		}
		counts[min(3, len(list))]++
	}
	if slices.Min(counts[:]) < 100 {
		t.Error("the numbers of variables are", counts)
	}
}

func TestSubstituteFormula(t *testing.T) {
	for _, c := range []struct{ f, name, e, want string }{
		{"true", "X", "a", "true"}, {"false", "X", "X", "false"}, {"r", "X", "a", "r"}, {"p(X)", "X", "a", "p(a)"}, {"p(X)", "X", "Y", "p(Y)"}, {"p(X)", "X", "X", "p(X)"}, {"p(X)", "X", "f(X)", "p(f(X))"}, {"p(Y)", "X", "a", "p(Y)"}, {"q(X,Y)", "X", "f(Y)", "q(f(Y),Y)"},
		{"X = f(X)", "X", "g(X,Y)", "g(X,Y) = f(g(X,Y))"}, {"~(X = Y)", "Y", "X", "~(X = X)"}, {"(p(X) => ~~q(X,X))", "X", "b", "(p(b) => ~~q(b,b))"}, {"r(X,f(X),Xa)", "X", "Xa", "r(Xa,f(Xa),Xa)"}, {"p(X)", "X", "truths", "p(truths)"},
		// Bound occurrences stay.
		{"all X.p(X)", "X", "a", "all X.p(X)"}, {"(p(X) & all X.p(X))", "X", "a", "(p(a) & all X.p(X))"}, {"(all X.p(X) & p(X))", "X", "a", "(all X.p(X) & p(a))"}, {"all X.(p(X) | all Y.q(X,Y))", "X", "a", "all X.(p(X) | all Y.q(X,Y))"}, {"all Y.(p(X) & some X.q(X,Y))", "X", "a", "all Y.(p(a) & some X.q(X,Y))"},
		{"all X.all X.p(X)", "X", "a", "all X.all X.p(X)"}, {"all X.some Y.p(X)", "X", "Y", "all X.some Y.p(X)"}, {"all X.p(X)", "X", "X", "all X.p(X)"}, {"all X.p(X)", "X", "f(X)", "all X.p(X)"}, {"all X.some Y.q(X,Y)", "Y", "X", "all X.some Y.q(X,Y)"}, {"all Y.some X.q(X,Y)", "Y", "X", "all Y.some X.q(X,Y)"},
		// Free occurrences below other quantifiers.
		{"some X.q(X,Y)", "Y", "a", "some X.q(X,a)"}, {"some X.q(X,Y)", "Y", "Z", "some X.q(X,Z)"}, {"some X.q(X,Y)", "Y", "Y", "some X.q(X,Y)"}, {"some X.q(X,Y)", "Y", "f(Y)", "some X.q(X,f(Y))"}, {"all X.all Z.r(X,Y,Z)", "Y", "g(A,a)", "all X.all Z.r(X,g(A,a),Z)"}, {"all X.r", "Y", "X", "all X.r"},
		// The variables of the term are bound beside the occurrences only, or where there is none.
		{"(p(Y) & all X.p(X))", "Y", "X", "(p(X) & all X.p(X))"}, {"(all X.p(X) => p(Y))", "Y", "f(X)", "(all X.p(X) => p(f(X)))"}, {"(some X.p(X) | all Z.q(Y,Z))", "Y", "X", "(some X.p(X) | all Z.q(X,Z))"}, {"some X.p(X)", "Y", "X", "some X.p(X)"}, {"some X.p(Z)", "Y", "X", "some X.p(Z)"},
		{"(p(Y) & some X.some Y.q(X,Y))", "Y", "X", "(p(X) & some X.some Y.q(X,Y))"}, {"(p(Y) & some Y.some X.q(X,Y))", "Y", "f(X)", "(p(f(X)) & some Y.some X.q(X,Y))"}, {"all Z.(q(Y,Z) & all X.p(X))", "Y", "X", "all Z.(q(X,Z) & all X.p(X))"}, {"(all X.r & p(Y))", "Y", "X", "(all X.r & p(X))"},
	} {
		if r, ok := impl.SubstituteFormula(formula(c.f), c.name, expr(c.e)); formulaText(r) != c.want || !ok {
			t.Errorf("substituting %s by %s in %s: %s, %v", c.name, c.e, c.f, formulaText(r), ok)
		}
	}
}

func TestVariablesAreNotCaptured(t *testing.T) {
	for _, c := range [][3]string{
		{"some X.q(X,Y)", "Y", "X"}, {"some X.q(X,Y)", "Y", "f(X)"}, {"some X.q(X,Y)", "Y", "g(a,f(X))"}, {"all X.p(Y)", "Y", "X"}, {"all X.Y = a", "Y", "X"}, {"all X.~(Y = a)", "Y", "g(Y,X)"}, {"all X.all Z.p(Y)", "Y", "X"}, {"all X.all Z.p(Y)", "Y", "Z"}, {"all X.all Z.p(Y)", "Y", "g(X,Z)"},
		{"all X.(r & (r => p(Y)))", "Y", "X"}, {"(r | all X.p(Y))", "Y", "X"}, {"(all X.p(Y) => r)", "Y", "X"}, {"(p(Y) & all X.p(Y))", "Y", "X"}, {"(all X.p(Y) & p(Y))", "Y", "X"}, {"all X.(some Y.p(Y) & p(Y))", "Y", "X"}, {"all X.(p(Y) & some Y.p(Y))", "Y", "X"}, {"all X.all X.p(Y)", "Y", "X"},
		{"all X.(all X.r | p(Y))", "Y", "X"}, {"all Y.some Z.q(X,Y)", "X", "Z"}, {"~~some Z.~q(X,Y)", "X", "f(f(Z))"}, {"all A.all B.all C.all D.r(X,A,D)", "X", "B"},
	} {
		if r, ok := impl.SubstituteFormula(formula(c[0]), c[1], expr(c[2])); !isZeroFormula(r) || ok {
			t.Errorf("substituting %s by %s in %s: %s, %v", c[1], c[2], c[0], formulaText(r), ok)
		}
	}
}

// checkSubstituted tests one call against the definition.
func checkSubstituted(t *testing.T, f impl.Formula, name string, e impl.Term) (impl.Formula, bool) {
	t.Helper()
	want, fits := plainSubstitute(f, name, e)
	r, ok := impl.SubstituteFormula(f, name, e)
	if ok != fits || !sameFormula(r, want) {
		t.Fatalf("substituting %s by %s in %s: %s, %v", name, termText(e), formulaText(f), formulaText(r), ok)
	}
	return r, ok
}

func TestSubstitutionInFormulasFollowsTheDefinition(t *testing.T) {
	terms := []impl.Term{node("X"), node("Y"), node("Z"), node("a"), expr("f(X)"), expr("g(Y,X)"), expr("g(Z,a)"), chain(impl.MaxTermDepth, node("a")), bush(impl.MaxTermSize), node("Zab9")}
	for _, f := range append(formulas(), smallFormulas(2)...) {
		for i, name := range []string{"X", "Y", "Zab9", "Z"} {
			e := terms[(plainSize(f)+i*3+len(formulaText(f)))%len(terms)]
			checkSubstituted(t, f, name, e)
			if r, ok := checkSubstituted(t, f, name, node(name)); !sameFormula(r, f) || !ok {
				t.Fatalf("substituting %s by itself in %s: %s, %v", name, formulaText(f), formulaText(r), ok)
			}
		}
	}
	source, counts := rand.New(rand.NewPCG(8, 2)), [3]int{}
	for range 30000 {
		f := randomFormula(source, 1+source.IntN(12), "X", "Y", "Z", "X", "a")
		name, e := "XYZ"[source.IntN(3):][:1], termOver(source, 3, []string{"X", "Y", "Z", "W", "a"})
		r, ok := checkSubstituted(t, f, name, e)
		switch {
		case !ok:
			counts[0]++
		case sameFormula(r, f):
			counts[1]++
		default:
			counts[2]++
		}
	}
	if slices.Min(counts[:]) < 1000 {
		t.Error("the numbers of results are", counts)
	}
}

func TestSubstitutionRespectsTruth(t *testing.T) {
	source, counts := rand.New(rand.NewPCG(8, 3)), map[bool]int{}
	all := models()
	for range 3000 {
		f := randomFormula(source, 2+source.IntN(7), "X", "Y", "Z", "X", "a")
		name, e := "XYZ"[source.IntN(3):][:1], termOver(source, 3, []string{"X", "Y", "Z", "W", "a"})
		r, ok := impl.SubstituteFormula(f, name, e)
		if !ok || sameFormula(r, f) {
			continue
		}
		for range 6 {
			m := all[source.IntN(len(all))]
			for _, assignment := range m.assignments([]string{"W", "X", "Y", "Z"}) {
				changed := maps.Clone(assignment)
				changed[name] = m.value(e, assignment)
				isTrue := m.holds(f, changed)
				if m.holds(r, assignment) != isTrue {
					t.Fatalf("substituting %s by %s in %s, which is %v, gives %s", name, termText(e), formulaText(f), isTrue, formulaText(r))
				}
				counts[isTrue && !m.holds(f, assignment)]++
			}
		}
	}
	if counts[true] < 1000 {
		t.Error("the numbers of changes are", counts)
	}
}

func TestLimitsOfSubstitutedFormulas(t *testing.T) {
	x := node("X")
	for size := 1; size <= impl.MaxTermSize; size++ {
		for _, f := range []impl.Formula{atomic(node("p", x)), negated(atomic(node("p", x))), joined(impl.OpAnd, atomic(node("r")), atomic(node("p", x))), quantified(impl.OpAll, "Y", atomic(node("=", x, node("a"))))} {
			own := 1
			if f.Op == impl.OpAll {
				own = 2
			}
			if r, ok := checkSubstituted(t, f, "X", bush(size)); ok != (size+own <= 30) {
				t.Errorf("a term of size %d in %s: %s, %v", size, formulaText(f), formulaText(r), ok)
			}
		}
		if r, ok := checkSubstituted(t, atomic(node("q", x, x)), "X", bush(size)); ok != (2*size+1 <= 30) {
			t.Errorf("a term of size %d in q(X,X): %s, %v", size, formulaText(r), ok)
		}
		if r, ok := checkSubstituted(t, joined(impl.OpOr, atomic(node("p", x)), atomic(node("p", x))), "X", bush(size)); ok != (size+1 <= 30) {
			t.Errorf("a term of size %d in (p(X) | p(X)): %s, %v", size, formulaText(r), ok)
		}
		// An occurrence that is bound does not become too large.
		if r, ok := checkSubstituted(t, quantified(impl.OpAll, "X", atomic(node("p", x))), "X", bush(size)); !ok {
			t.Errorf("a term of size %d in all X.p(X): %s, %v", size, formulaText(r), ok)
		}
	}
	for depth := 1; depth <= impl.MaxTermDepth; depth++ {
		for below := 2; below <= impl.MaxTermDepth; below++ {
			if r, ok := checkSubstituted(t, negated(atomic(chain(below, x))), "X", chain(depth, node("a"))); ok != (depth+below-1 <= 8) {
				t.Errorf("a term of depth %d below %d nodes: %s, %v", depth, below, formulaText(r), ok)
			}
		}
	}
	// The greatest formulas remain valid.
	for _, f := range formulasOfSize(impl.MaxFormulaSize) {
		if r, ok := checkSubstituted(t, f, "X", node("f", node("b"))); !ok {
			t.Errorf("f(b) for X in %s: %s, %v", formulaText(f), formulaText(r), ok)
		}
	}
}

func TestSubstitutedNamesAndTerms(t *testing.T) {
	f := formula("(p(X) & all Y.q(X,Y))")
	for _, name := range possibleNames() {
		r, ok := impl.SubstituteFormula(f, name, node("a"))
		if isName := variableName.MatchString(name); ok != isName || !ok && !isZeroFormula(r) {
			t.Fatalf("substituting %q: %s, %v", name, formulaText(r), ok)
		}
	}
	for _, name := range []string{"a", "p", "q", "r", "=", "", "(", "X.", "f(X)"} {
		for _, text := range []string{"r", "p(a)", "all X.p(a)", "a = b", "true"} {
			if r, ok := impl.SubstituteFormula(formula(text), name, node("b")); !isZeroFormula(r) || ok {
				t.Errorf("substituting %q in %s: %s, %v", name, text, formulaText(r), ok)
			}
		}
	}
	for _, e := range append(invalidTerms(), append(unboundedTerms(), expr("a = b"), expr("X = X"), expr("Y = f(X)"))...) {
		for _, text := range []string{"p(X)", "(p(X) & all Y.q(X,Y))", "all X.p(X)", "r", "true"} {
			if r, ok := impl.SubstituteFormula(formula(text), "X", e); !isZeroFormula(r) || ok {
				t.Errorf("substituting X by %q in %s: %s, %v", e.Name, text, formulaText(r), ok)
			}
		}
	}
}

// checkAlpha tests both directions of one comparison against the definition.
func checkAlpha(t *testing.T, f, g impl.Formula) bool {
	t.Helper()
	want := plainAlpha(f, g, 0)
	for _, pair := range [][2]impl.Formula{{f, g}, {g, f}} {
		if yes, ok := impl.AlphaEqual(pair[0], pair[1]); yes != want || !ok {
			t.Fatalf("AlphaEqual of %s and %s is %v, %v", formulaText(pair[0]), formulaText(pair[1]), yes, ok)
		}
	}
	return want
}

func TestAlphaEqual(t *testing.T) {
	for _, c := range [][2]string{
		{"true", "true"}, {"r", "r"}, {"p(X)", "p(X)"}, {"X = f(Y)", "X = f(Y)"}, {"all X.p(X)", "all Y.p(Y)"}, {"some X.q(X,Z)", "some Y.q(Y,Z)"}, {"all X.r", "all Y.r"}, {"all X.p(a)", "all Zab9.p(a)"}, {"all X.p(Z)", "all Y.p(Z)"}, {"~all X.X = f(X)", "~all Z.Z = f(Z)"},
		{"all X.all Y.q(X,Y)", "all Y.all X.q(Y,X)"}, {"all X.all Y.q(X,Y)", "all A.all B.q(A,B)"}, {"all X.some Y.(q(X,Y) & p(Y))", "all Y.some X.(q(Y,X) & p(X))"}, {"all X.all X.p(X)", "all X.all Y.p(Y)"}, {"all X.all X.p(X)", "all Y.all X.p(X)"}, {"all X.(p(X) & all X.p(X))", "all X.(p(X) & all Y.p(Y))"},
		{"(all X.p(X) & all X.p(X))", "(all X.p(X) & all Y.p(Y))"}, {"(p(X) & all X.p(X))", "(p(X) & all Y.p(Y))"}, {"all X.(all X.p(X) & p(X))", "all Y.(all X.p(X) & p(Y))"}, {"(all X.p(X) => q(X,Y))", "(all Y.p(Y) => q(X,Y))"}, {"all X.all Y.all Z.r(X,Y,Z)", "all Z.all X.all Y.r(Z,X,Y)"},
	} {
		if !checkAlpha(t, formula(c[0]), formula(c[1])) {
			t.Errorf("%s and %s differ", c[0], c[1])
		}
	}
	for _, c := range [][2]string{
		{"true", "false"}, {"r", "true"}, {"p", "r"}, {"p(X)", "p(Y)"}, {"p(X)", "p(a)"}, {"p(a)", "p(b)"}, {"p(a)", "p"}, {"p(a,X)", "p(a)"}, {"X = Y", "Y = X"}, {"~p(X)", "~p(Y)"}, {"~r", "r"}, {"(r & r)", "(r | r)"}, {"(r & p)", "(p & r)"}, {"(r => r)", "(r & r)"}, {"all X.p(X)", "some X.p(X)"},
		{"all X.p(X)", "p(X)"}, {"all X.p(X)", "all X.all X.p(X)"}, {"all X.r", "r"},
		// A free variable differs.
		{"all X.q(X,Y)", "all X.q(X,Z)"}, {"all X.q(X,Y)", "all Z.q(Z,X)"}, {"(p(X) & all X.p(X))", "(p(Y) & all Y.p(Y))"}, {"all X.p(Y)", "all X.p(Z)"}, {"(all X.p(X) & p(X))", "(all X.p(X) & p(Y))"},
		// The order of nested quantifiers differs.
		{"all X.all Y.q(X,Y)", "all Y.all X.q(X,Y)"}, {"all X.all Y.q(X,Y)", "all X.all Y.q(Y,X)"}, {"all X.some Y.r", "some Y.all X.r"}, {"some X.some Y.p(X)", "some Y.some X.p(X)"}, {"some X.some Y.p(X)", "some X.some Y.p(Y)"}, {"all X.all Y.all Z.r(X,Y,Z)", "all X.all Z.all Y.r(X,Y,Z)"}, {"all X.all X.p(X)", "all X.all Y.p(X)"},
		// A bound variable takes the place of a free one.
		{"all X.q(X,Y)", "all Y.q(Y,Y)"}, {"all X.p(Y)", "all Y.p(Y)"}, {"all X.p(X)", "all X.p(Y)"}, {"all X.p(X)", "all Y.p(X)"}, {"all X.q(X,X)", "all X.q(X,Y)"}, {"all X.(p(X) & all Y.q(X,Y))", "all X.(p(X) & all X.q(X,X))"}, {"all X.(all Y.p(Y) & p(X))", "all X.(all Y.p(Y) & p(Y))"},
		{"all X.all Y.q(X,Y)", "all X.all X.q(X,X)"}, {"all X.p(X)", "all X.p(a)"}, {"all X.p(f(X))", "all X.p(X)"}, {"(all X.p(X) & p(X))", "(all Y.p(Y) & p(Y))"}, {"all X.all Y.p(Z)", "all X.all Z.p(Z)"}, {"all X.(all X.p(X) & p(X))", "all X.(all Y.p(X) & p(X))"},
	} {
		if checkAlpha(t, formula(c[0]), formula(c[1])) {
			t.Errorf("%s and %s are equal", c[0], c[1])
		}
	}
}

// renamedAt renames the variable of the quantifier k, in preorder, and returns how many quantifiers
// there are.
func renamedAt(f impl.Formula, k int, name string) (impl.Formula, int) {
	r, count := impl.Formula{Op: f.Op, Atom: f.Atom, Var: f.Var}, 0
	if isQuantifier(f) {
		count++
	}
	for _, part := range f.Parts {
		if isQuantifier(f) && k == 0 {
			r.Var, part = name, replaceFree(part, f.Var, node(name))
		}
		changed, more := renamedAt(part, k-count, name)
		r.Parts = append(r.Parts, changed)
		count += more
	}
	return r, count
}

func TestRenamedBoundVariables(t *testing.T) {
	source, checked := rand.New(rand.NewPCG(8, 4)), 0
	list := append(formulas(), smallFormulas(2)...)
	for range 3000 {
		list = append(list, randomFormula(source, 1+source.IntN(12), "X", "Y", "Z", "a"))
	}
	all := models()
	for i, f := range list {
		if !checkAlpha(t, f, cloneFormula(f)) {
			t.Fatalf("%s differs from itself", formulaText(f))
		}
		_, count := renamedAt(f, -1, "New")
		g := f
		for k := range count {
			one, _ := renamedAt(f, k, "New")
			g, _ = renamedAt(g, k, "N"+strconv.Itoa(k))
			if !checkAlpha(t, f, one) || !checkAlpha(t, f, g) || !checkAlpha(t, one, g) {
				t.Fatalf("%s, %s and %s differ", formulaText(f), formulaText(one), formulaText(g))
			}
			checked++
		}
		if m := all[i%len(all)]; plainSize(f) < 8 && !sameFormula(f, g) {
			for _, assignment := range m.assignments(plainFree(f)) {
				if m.holds(f, assignment) != m.holds(g, assignment) {
					t.Fatalf("%s and %s mean different things", formulaText(f), formulaText(g))
				}
			}
		}
	}
	if checked < 5000 {
		t.Error("only", checked, "renamings")
	}
}

func TestAlphaEqualFollowsTheDefinition(t *testing.T) {
	small := smallFormulas(1)
	for _, f := range small {
		for _, g := range small {
			checkAlpha(t, f, g)
		}
	}
	source, counts := rand.New(rand.NewPCG(8, 5)), map[bool]int{}
	var twist func(f impl.Formula) impl.Formula
	twist = func(f impl.Formula) impl.Formula {
		r := impl.Formula{Op: f.Op, Atom: f.Atom, Var: f.Var}
		for _, part := range f.Parts {
			r.Parts = append(r.Parts, twist(part))
		}
		switch {
		case isQuantifier(f) && source.IntN(2) == 0:
			name := "XYZ"[source.IntN(3):][:1]
			r.Var, r.Parts[0] = name, replaceFree(r.Parts[0], f.Var, node(name))
		case isQuantifier(f) && source.IntN(8) == 0:
			r.Var = "XYZ"[source.IntN(3):][:1]
		case f.Op == impl.OpAtom && source.IntN(12) == 0:
			r.Atom = plainApply(map[string]impl.Term{"X": node("Y"), "Y": node("X")}, f.Atom)
		}
		return r
	}
	for range 30000 {
		f := randomFormula(source, 2+source.IntN(10), "X", "Y", "Z")
		if g := twist(f); !sameFormula(f, g) {
			counts[checkAlpha(t, f, g)]++
		}
	}
	if counts[true] < 2000 || counts[false] < 2000 {
		t.Error("the numbers of results are", counts)
	}
}

func TestCloseFormula(t *testing.T) {
	for text, want := range map[string]string{
		"true": "true", "r": "r", "p(X)": "all X.p(X)", "q(Y,X)": "all X.all Y.q(Y,X)", "all X.p(X)": "all X.p(X)", "some X.q(X,Y)": "all Y.some X.q(X,Y)", "(p(X) & all X.p(X))": "all X.(p(X) & all X.p(X))", "all X.r": "all X.r", "~(X = a)": "all X.~(X = a)", "X = a": "all X.X = a",
		"(q(X2,X10) => r(Zab9,A,X2))": "all A.all X10.all X2.all Zab9.(q(X2,X10) => r(Zab9,A,X2))", "all Y.r(X,Y,Z)": "all X.all Z.all Y.r(X,Y,Z)", "(r(C,B,A) | some B.q(B,D))": "all A.all B.all C.all D.(r(C,B,A) | some B.q(B,D))",
	} {
		if r, ok := impl.CloseFormula(formula(text)); formulaText(r) != want || !ok {
			t.Errorf("the closure of %s is %s, %v", text, formulaText(r), ok)
		}
	}
}

// checkClosed tests one closure against the definition and the guarantee.
func checkClosed(t *testing.T, f impl.Formula) (impl.Formula, bool) {
	t.Helper()
	want := plainClose(f)
	r, ok := impl.CloseFormula(f)
	if ok != isProperFormula(want) || ok && !sameFormula(r, want) || !ok && !isZeroFormula(r) {
		t.Fatalf("the closure of %s is %s, %v", formulaText(f), formulaText(r), ok)
	}
	if ok {
		if list, fine := impl.FreeVariables(r); len(list) > 0 || !fine || len(plainFree(r)) > 0 {
			t.Fatalf("the closure %s has the free variables %q, %v", formulaText(r), list, fine)
		}
		if again, fine := impl.CloseFormula(r); !sameFormula(again, r) || !fine {
			t.Fatalf("the closure of the closure %s is %s, %v", formulaText(r), formulaText(again), fine)
		}
	}
	return r, ok
}

func TestClosuresHaveNoFreeVariables(t *testing.T) {
	source, list := rand.New(rand.NewPCG(8, 6)), append(formulas(), smallFormulas(2)...)
	for range 5000 {
		list = append(list, randomFormula(source, 1+source.IntN(40), "X", "Y", "Z", "A", "B1", "B10", "B2", "a"))
	}
	all, counts := models(), map[bool]int{}
	for i, f := range list {
		r, ok := checkClosed(t, f)
		counts[ok]++
		free, m := plainFree(f), all[i%len(all)]
		if !ok || plainSize(f) > 5 || len(free) > 4 {
			continue
		}
		isTrue := true
		for _, assignment := range m.assignments(free) {
			isTrue = isTrue && m.holds(f, assignment)
		}
		if m.holds(r, nil) != isTrue {
			t.Fatalf("%s is true for all elements: %v", formulaText(f), isTrue)
		}
	}
	if counts[true] < 5000 || counts[false] < 50 {
		t.Error("the numbers of results are", counts)
	}
}

func TestLimitsOfClosures(t *testing.T) {
	for count := range 30 {
		for size := 1; size <= impl.MaxFormulaSize; size++ {
			f := chainOf(size, atomic(leaves(append(nodes(names(count)...), node("a"))...)), func(i int, f impl.Formula) impl.Formula { return negated(f) })
			if r, ok := checkClosed(t, f); ok != (count+size <= 40 && count < 22) {
				t.Errorf("%d variables and the size %d: %s, %v", count, size, formulaText(r), ok)
			}
		}
	}
	// As many variables as a formula can have.
	f := atomic(leaves(nodes(longNames(21)...)...))
	for i := range 19 {
		args := nodes(longNames((i + 2) * 21)[(i+1)*21:]...)
		f = joined(impl.OpAnd, f, atomic(leaves(args...)))
	}
	if r, ok := checkClosed(t, f); ok || len(plainFree(f)) != 420 {
		t.Errorf("%d variables: %s, %v", len(plainFree(f)), formulaText(r), ok)
	}
}

// isAccepted tests that a text is either that of the formula for which it is accepted, or rejected.
func isAccepted(t *testing.T, s string) bool {
	t.Helper()
	f, ok := impl.ParseFormula(s)
	if !ok {
		if !isZeroFormula(f) {
			t.Fatalf("%q is rejected with %s", s, formulaText(f))
		}
		return false
	}
	if !isProperFormula(f) || formulaText(f) != s || len(s) > 4000 {
		t.Fatalf("%q is accepted as %s", s, formulaText(f))
	}
	if text, fine := impl.FormatFormula(f); text != s || !fine {
		t.Fatalf("%q is recovered as %q, %v", s, text, fine)
	}
	return true
}

func TestTextsOfFormulas(t *testing.T) {
	r, x := atomic(node("r")), node("X")
	equality, p := atomic(node("=", x, node("a"))), atomic(node("p", x, node("f", x)))
	for want, f := range map[string]impl.Formula{
		"true": constant(impl.OpTrue), "false": constant(impl.OpFalse), "r": r, "p(X,f(X))": p, "X = a": equality,
		"~true": negated(constant(impl.OpTrue)), "~false": negated(constant(impl.OpFalse)), "~r": negated(r), "~p(X,f(X))": negated(p), "~(X = a)": negated(equality), "~~r": negated(negated(r)), "~~(X = a)": negated(negated(equality)), "~~~(X = a)": negated(negated(negated(equality))),
		"(r & X = a)": joined(impl.OpAnd, r, equality), "(X = a & r)": joined(impl.OpAnd, equality, r), "(X = a | X = a)": joined(impl.OpOr, equality, equality), "(r => true)": joined(impl.OpImplies, r, constant(impl.OpTrue)), "(X = a => X = a)": joined(impl.OpImplies, equality, equality),
		"(~(X = a) | ~r)": joined(impl.OpOr, negated(equality), negated(r)), "~(X = a & r)": negated(joined(impl.OpAnd, equality, r)), "~(X = a => X = a)": negated(joined(impl.OpImplies, equality, equality)), "~(r | X = a)": negated(joined(impl.OpOr, r, equality)),
		"all X.r": quantified(impl.OpAll, "X", r), "some X.r": quantified(impl.OpExists, "X", r), "all X.X = a": quantified(impl.OpAll, "X", equality), "some Zab9.~(X = a)": quantified(impl.OpExists, "Zab9", negated(equality)), "~all X.X = a": negated(quantified(impl.OpAll, "X", equality)), "~some X.r": negated(quantified(impl.OpExists, "X", r)),
		"all X.some Y.X = a": quantified(impl.OpAll, "X", quantified(impl.OpExists, "Y", equality)), "(all X.r & r)": joined(impl.OpAnd, quantified(impl.OpAll, "X", r), r), "all X.(r & r)": quantified(impl.OpAll, "X", joined(impl.OpAnd, r, r)), "(all X.X = a => some X.r)": joined(impl.OpImplies, quantified(impl.OpAll, "X", equality), quantified(impl.OpExists, "X", r)),
		"((r & r) | r)": joined(impl.OpOr, joined(impl.OpAnd, r, r), r), "(r & (r | r))": joined(impl.OpAnd, r, joined(impl.OpOr, r, r)), "((X = a => r) => ~(X = a))": joined(impl.OpImplies, joined(impl.OpImplies, equality, r), negated(equality)), "~(~(X = a) & r)": negated(joined(impl.OpAnd, negated(equality), r)),
	} {
		if text, ok := impl.FormatFormula(f); text != want || !ok {
			t.Errorf("the text of %s is %q, %v", want, text, ok)
		}
		if g, ok := impl.ParseFormula(want); !sameFormula(f, g) || !ok {
			t.Errorf("the formula of %s is %s, %v", want, formulaText(g), ok)
		}
	}
}

func TestFormulasAreRecovered(t *testing.T) {
	list, source := append(formulas(), smallFormulas(2)...), rand.New(rand.NewPCG(8, 7))
	for range 20000 {
		list = append(list, randomFormula(source, 1+source.IntN(40), "X", "Y", "Zab9", "a", "truth1"))
	}
	for _, f := range list {
		want := formulaText(f)
		if text, ok := impl.FormatFormula(f); text != want || !ok {
			t.Fatalf("the text of %s is %q, %v", want, text, ok)
		}
		if g, ok := impl.ParseFormula(want); !sameFormula(f, g) || !ok {
			t.Fatalf("the formula of %s is %s, %v", want, formulaText(g), ok)
		}
	}
}

func TestNamesThatBeginLikeWords(t *testing.T) {
	for _, text := range []string{
		"trues", "true_", "true1", "truer", "falses", "false_", "alls", "all1", "all_", "allx", "somes", "some_", "some1", "truths", "boths", "ifs", "tru", "fals", "al", "som", "t", "f", "a", "s",
		"trues(X)", "all_(X,a)", "somes = all1", "true1 = false_", "~(trues = a)", "~alls", "~some1(X)", "~truer", "(trues & false_)", "(alls => somes)", "(true_ | true)", "(true | true_)", "(false => falses)", "all X.alls", "all All.some_(All)", "some Som.somes = a", "all Tru.true1", "some Fals.false", "all X.p(trues,all1)",
		"all X.true", "some X.~false", "~~true", "(true & false)", "all T.trues = T", "all A.A = alls",
	} {
		if !isAccepted(t, text) {
			t.Errorf("%q is rejected", text)
		}
	}
	for _, text := range []string{
		"truth", "both", "either", "if", "all", "some", "true(a)", "false(X)", "all(X)", "some(X,Y)", "true = a", "a = true", "~(true = a)", "p(true)", "f(all)", "all = some", "some = b", "all X.all", "some X.truth", "(true & all)", "all all.r", "some some.r", "all true.r", "all alls.r", "trueX", "truesss", "alls X.r", "all_ X.r", "somes X.r", "sometrue", "alltrue", "falsetrue", "truetrue",
	} {
		if isAccepted(t, text) {
			t.Errorf("%q is accepted", text)
		}
	}
}

func rejectedFormulas() []string {
	return []string{
		"", " ", "  ", "\n", "\x00", "\xff", "(", ")", "()", "~", "~~", ".", "&", "|", "=>", "=", " = ", " & ", "X", "~X", "Xab", "all X.X", "(X & r)", "(r & X)", "\u00e9", "$false", "a != b", "~a != b", "~(a != b)", "1", "-",
		// Spaces.
		" r", "r ", "r\n", "\tr", " true", "true ", "~ r", " ~r", "~r ", "~ (a = b)", "~( a = b)", "~(a = b )", "~(a =b)", "~(a= b)", "~(a=b)", "~(a  = b)", "a =  b", "a = b ", " a = b", "(r& r)", "(r &r)", "(r&r)", "(r  & r)", "(r &  r)", "( r & r)", "(r & r )", "(r & r) ", " (r & r)", "(r |r)", "(r|r)", "(r=> r)", "(r =>r)", "(r=>r)", "(r = > r)", "(r =>  r)", "(r\t&\tr)", "(r &\u00a0r)",
		"all  X.r", "all X .r", "all X. r", " all X.r", "all X.r ", "allX.r", "all\tX.r", "some  X.r", "some X .r", "some X. r", "someX.r", "all X.some  Y.r", "(all X.r  & r)", "p( X)", "p(X )", "p (X)", "p(X, Y)", "p(X ,Y)", "~p (X)",
		// Points.
		"all X", "all X r", "some X r", "all X.", "some X.", "all .r", "all.r", "all X..r", "all .X.r", "all X,r", "all X:r", "all X.some Y", "all X.Y.r", "all X.some.r", "X.r", "r.", ".r", "(all X & r)", "(all X. & r)", "all X.(r & some Y)", "all X.r.",
		// Names of variables.
		"all x.r", "all a.r", "all XY.r", "all X_.r", "all Xabcd.r", "some xab.r", "some 1.r", "all X,Y.r", "all X Y.r", "all (X).r", "all X(a).r", "all f(X).r", "all ~X.r", "all \u00c9.r", "all X\x00.r", "all =.r", "All X.r", "ALL X.r", "exists X.r", "forall X.r", "Some X.r", "ex X.r",
		// Parentheses that are missing.
		"r & r", "r | r", "r => r", "(r & r", "r & r)", "(r | r", "(r => r", "r => r)", "((r & r) | r", "(r & (r | r)", "(r & r | r)", "(r & r & r)", "(r => r => r)", "(r | r | r)", "~r & r", "all X.r & r", "all X.(r & r", "~(r & r", "~a = b", "~X = a", "~(a = b", "~a = b)", "~~a = b", "~~(a = b", "(~a = b & r)", "(r & ~a = b)", "all X.~X = a", "~p(X", "p(X", "p(f(X)",
		// Parentheses where there must be none.
		"(r)", "((r))", "(true)", "(false)", "(p(X))", "(a = b)", "((a = b))", "~(r)", "~(p(X))", "~(p(a))", "~(true)", "~((a = b))", "~(~(a = b))", "~(~r)", "~((r & r))", "((r & r))", "((r) & r)", "(r & (r))", "((a = b) & r)", "(r => (a = b))", "((a = b) | (a = b))", "~((a = b) & r)", "~((a = b) => (a = b))", "all X.(r)", "all X.(X = a)", "some X.(~r)", "(all X.r)", "~(all X.r)", "all (X.r)", "all (X).r", "~(some X.X = a)", "(~r)", "(~(a = b))", "~(~~r)", "r()", "p((X))", "(p)(X)",
		"r)", "r))", "(r & r))", "p(X))", "a = b)", "~(a = b))", "all X.r)", "~r)", "(r & r)(r & r)", "true)", "()r", "r(", "(r & r)(", "~(a = b)(", "~()", "~(a = )", "~( = b)",
		// Parts.
		"( & r)", "(r & )", "(& r)", "(r &)", "(r & & r)", "( => )", "(r)(r)", "(r r)", "(r, r)", "(r,r)", "r,r", "r, r", "p(X),", ",r", "(r ~ r)", "(r &~r)", "(r ~& r)", "r~", "~r~", "(r & r)~", "(a = b = c)", "a = b = c", "~(a = b = c)", "(a = b c)", "(a b & r)", "r r", "true true", "truefalse", "~(a = b) r", "~(a = b)r", "~r r", "all X.r all X.r", "~(a = b & )", "~(a = b r)",
		"(r && r)", "(r || r)", "(r -> r)", "(r <= r)", "(r <=> r)", "(r = r)", "(r => r <= r)", "(r == r)", "!r", "-r", "not r", "~=(a,b)", "=(a,b)", "p(a = b)", "p(~r)", "p(r & r)", "f(X) = (r & r)", "(a = (r & r))", "~all", "all X.all Y", "$true", "(r & $false)", "(r ; r)", "r;", "r.", "[r]", "{r}", "(r & r]",
	}
}

func TestOtherTextsAreNoFormulas(t *testing.T) {
	for _, text := range rejectedFormulas() {
		if isAccepted(t, text) {
			t.Errorf("%q is accepted", text)
		}
		for _, other := range []string{"~" + text, "all X." + text, "(r & " + text + ")", "(" + text + " => r)"} {
			isAccepted(t, other)
		}
	}
	for _, c := range invalidFormulas() {
		// The text of an invalid Formula may be that of a valid one.
		if len(c.Parts) < 10 && plainSize(c) < 100 {
			isAccepted(t, formulaText(c))
		}
	}
}

// formulaTexts maps the texts of the formulas over r, a = b, true and X that consist of at most the
// given number of tokens. An equality is one token.
func formulaTexts(most int) map[string]bool {
	lists := make([][]string, most+1)
	lists[1] = []string{"r", "a = b", "true"}
	for n := 2; n <= most; n++ {
		for _, s := range lists[n-1] {
			lists[n] = append(lists[n], "all X."+s)
			if s != "a = b" {
				lists[n] = append(lists[n], "~"+s)
			}
		}
		if n == 4 {
			lists[n] = append(lists[n], "~(a = b)")
		}
		for i := 1; i+4 <= n; i++ {
			for _, first := range lists[i] {
				for _, second := range lists[n-3-i] {
					lists[n] = append(lists[n], "("+first+" & "+second+")", "("+first+" => "+second+")")
				}
			}
		}
	}
	texts := map[string]bool{}
	for _, list := range lists {
		for _, s := range list {
			texts[s] = true
		}
	}
	return texts
}

func TestStringsOfTokens(t *testing.T) {
	texts, found := formulaTexts(6), 0
	for _, s := range tokenStrings(6, "r", "a = b", "true", "~", "(", ")", " & ", " => ", "all X.") {
		if ok := isAccepted(t, s); ok != texts[s] && (!ok || !isJoined(s)) {
			t.Fatalf("%q is accepted: %v", s, ok)
		}
		if texts[s] {
			found++
		}
	}
	if found != len(texts) || found < 200 {
		t.Error("found", found, "of", len(texts), "texts")
	}
	for s := range formulaTexts(9) {
		if !isAccepted(t, s) {
			t.Fatalf("%q is rejected", s)
		}
	}
}

// isJoined reports whether two tokens are side by side that make other names or terms of the names
// in them.
func isJoined(s string) bool {
	for _, pair := range []string{"rr", "ra", "rtrue", "br", "ba", "btrue", "truer", "truea", "truet", "r(", "b("} {
		if strings.Contains(s, pair) {
			return true
		}
	}
	return false
}

func TestChangedTextsOfFormulas(t *testing.T) {
	texts := []string{}
	for _, f := range smallFormulas(1) {
		texts = append(texts, formulaText(f))
	}
	source := rand.New(rand.NewPCG(8, 8))
	for range 300 {
		texts = append(texts, formulaText(randomFormula(source, 1+source.IntN(8), "X", "Y", "a")))
	}
	counts := map[bool]int{}
	for _, s := range texts {
		for _, changed := range changedTexts(s) {
			counts[isAccepted(t, changed)]++
		}
		for i := range len(s) {
			for _, part := range []string{"&", ">", ".", " ", "all ", "some ", "~", "true", " & ", " => ", " | ", "X.", "()", "(r & ", " & r)"} {
				counts[isAccepted(t, s[:i]+part+s[i:])]++
				counts[isAccepted(t, s[:i]+part+s[i+1:])]++
			}
			for _, j := range []int{2, 3, 4, 5, 6} {
				counts[isAccepted(t, s[:i]+s[min(len(s), i+j):])]++
			}
		}
	}
	if counts[true] < 5000 || counts[false] < 100000 {
		t.Error("the numbers of results are", counts)
	}
}

func TestLengthsOfFormulaTexts(t *testing.T) {
	if impl.MaxString != 4000 {
		t.Error(impl.MaxString)
	}
	for length := 3900; length <= 4300; length++ {
		for _, f := range []impl.Formula{longFormula(length), negated(longFormula(length - 1)), quantified(impl.OpAll, "X", longFormula(length-6)), quantified(impl.OpExists, "Zab9", longFormula(length-10))} {
			want := formulaText(f)
			if len(want) != length || !isProperFormula(f) || !impl.IsValidFormula(f) {
				t.Fatalf("%s has %d bytes", want, len(want))
			}
			text, ok := impl.FormatFormula(f)
			if fits := length <= 4000; ok != fits || fits && text != want || !fits && text != "" {
				t.Fatalf("the text of %d bytes: %q, %v", length, text, ok)
			}
			g, ok := impl.ParseFormula(want)
			if fits := length <= 4000; ok != fits || fits && !sameFormula(f, g) || !fits && !isZeroFormula(g) {
				t.Fatalf("the formula of %d bytes: %s, %v", length, formulaText(g), ok)
			}
		}
	}
}

func TestDeeplyNestedTexts(t *testing.T) {
	for size := 1; size <= 60; size++ {
		for _, f := range formulasOfSize(size) {
			if isAccepted(t, formulaText(f)) != (size <= 40) {
				t.Errorf("%s of size %d is accepted: %v", formulaText(f), size, size > 40)
			}
		}
		if isAccepted(t, strings.Repeat("~", size-1)+"(a = b)") != (2 <= size && size <= 40) {
			t.Error("an equality and", size-1, "negations")
		}
	}
	for _, count := range []int{38, 39, 40, 41, 100, 500, 1000, 2000, 3999, 4000, 4001, 100000, 1000000} {
		for _, part := range []string{"~", "(", "~(", "all X.", "~all X.", "(r & ", "(~", ")", "a", "f(", "a(", "X", " ", ".", " & ", "all ", "true", "(((r", "~((", "((a = b", "~(a = b", "a = "} {
			open := strings.Repeat(part, count)
			for _, end := range []string{"", "r", "r)", "a = b", "(a = b)", "r & r)", ")", "X.r", "r" + strings.Repeat(")", count), "a = b" + strings.Repeat(")", count), "r" + strings.Repeat(" & r)", count)} {
				isAccepted(t, open+end)
			}
		}
	}
}

func TestCountQuantifiers(t *testing.T) {
	for text, want := range map[string][2]int{
		"true": {0, 0}, "r": {0, 0}, "(~r => ~~r)": {0, 0}, "all X.r": {1, 0}, "some X.r": {0, 1}, "~all X.r": {0, 1}, "~some X.r": {1, 0}, "~~all X.r": {1, 0}, "~~some X.r": {0, 1}, "~~~some X.r": {1, 0},
		"(all X.p(X) => all Y.p(Y))": {1, 1}, "(some X.r => r)": {1, 0}, "(r => some X.r)": {0, 1}, "(all X.r => r)": {0, 1}, "(some X.r => some X.r)": {1, 1}, "((all X.r => r) => r)": {1, 0}, "((r => all X.r) => r)": {0, 1}, "(~all X.r => r)": {1, 0}, "(r => ~all X.r)": {0, 1},
		"(all X.r & all X.r)": {2, 0}, "(some X.r & all X.r)": {1, 1}, "(some X.r | some X.r)": {0, 2}, "~(all X.r & some X.r)": {1, 1}, "~(some X.r | some X.r)": {2, 0}, "~(all X.r => some X.r)": {2, 0}, "~(some X.r => all X.r)": {0, 2}, "all X.all Y.some Z.r": {2, 1}, "~all X.some Y.all Z.r": {1, 2},
		"all X.(some Y.r => some Z.r)": {2, 1}, "all X.~some Y.~all Z.r": {3, 0}, "some X.~all Y.~some Z.r": {0, 3}, "(((some X.r => r) => r) => some Y.r)": {1, 1}, "(r => (some X.r => all X.r))": {2, 0}, "all X.all X.all X.p(Y)": {3, 0},
	} {
		if strong, weak, ok := impl.CountQuantifiers(formula(text)); strong != want[0] || weak != want[1] || !ok {
			t.Errorf("%s has %d strong and %d weak quantifiers, %v", text, strong, weak, ok)
		}
	}
	list, source, total := append(formulas(), smallFormulas(2)...), rand.New(rand.NewPCG(8, 9)), [2]int{}
	for range 10000 {
		list = append(list, randomFormula(source, 1+source.IntN(40), "X", "a"))
	}
	for _, f := range list {
		strong, weak, ok := impl.CountQuantifiers(f)
		if g := pushed(f, false); strong != plainCount(g, impl.OpAll) || weak != plainCount(g, impl.OpExists) || !ok {
			t.Fatalf("%s has %d strong and %d weak quantifiers, %v", formulaText(f), strong, weak, ok)
		}
		total[0] += strong
		total[1] += weak
	}
	if slices.Min(total[:]) < 10000 {
		t.Error("the numbers of quantifiers are", total)
	}
}

func TestFormulaOf(t *testing.T) {
	for text, want := range map[string]string{
		"$false": "false", "r": "r", "~r": "~r", "a = b": "a = b", "a != b": "~(a = b)", "X = a": "all X.X = a", "X != a": "all X.~(X = a)", "p(X)": "all X.p(X)", "~p(X)": "all X.~p(X)", "q(Y,X)": "all X.all Y.q(Y,X)", "p | q": "(p | q)", "~p | p": "(~p | p)", "a | b | c": "(a | (b | c))", "a | ~b | c | ~d": "(a | (~b | (c | ~d)))",
		"~p(X) | r": "all X.(~p(X) | r)", "p(X) | p(Y)": "all X.all Y.(p(X) | p(Y))", "a != b | a = b": "(~(a = b) | a = b)", "a = b | b != a | p(Z)": "all Z.(a = b | (~(b = a) | p(Z)))", "p(Z) | q(Y,Z) | ~s(X10) | s(X2)": "all X10.all X2.all Y.all Z.(p(Z) | (q(Y,Z) | (~s(X10) | s(X2))))",
		"a | b | c | d | e | f | g | h": "(a | (b | (c | (d | (e | (f | (g | h)))))))", "~a | ~b | ~c | ~d | ~e | ~f | ~g | ~h": "(~a | (~b | (~c | (~d | (~e | (~f | (~g | ~h)))))))",
	} {
		if f, ok := impl.FormulaOf(clause(text)); formulaText(f) != want || !ok {
			t.Errorf("the formula of %s is %s, %v", text, formulaText(f), ok)
		}
	}
}

// checkFormulaOf tests the formula of one clause against the definition.
func checkFormulaOf(t *testing.T, c impl.Clause) (impl.Formula, bool) {
	t.Helper()
	want, fits := plainFormulaOf(c)
	f, ok := impl.FormulaOf(c)
	if ok != fits || !sameFormula(f, want) {
		t.Fatalf("the formula of %s is %s, %v", clauseText(c), formulaText(f), ok)
	}
	if list, fine := impl.FreeVariables(f); ok && (len(list) > 0 || !fine) {
		t.Fatalf("the formula of %s has the free variables %q, %v", clauseText(c), list, fine)
	}
	return f, ok
}

func TestFormulasOfClausesFollowTheDefinition(t *testing.T) {
	for _, c := range append(clauses(), wideClauses()...) {
		checkFormulaOf(t, c)
	}
	source, all, counts := rand.New(rand.NewPCG(8, 10)), models(), map[bool]int{}
	for range 5000 {
		c := randomClause(source, 4, "X", "Y", "Z", "a", "b")
		f, ok := checkFormulaOf(t, c)
		if !ok {
			t.Fatalf("%s has no formula", clauseText(c))
		}
		for range 4 {
			m := all[source.IntN(len(all))]
			isTrue := m.isTrue(c)
			if m.holds(f, nil) != isTrue {
				t.Fatalf("%s is %v, but %s is not, in the model %v", clauseText(c), isTrue, formulaText(f), m)
			}
			counts[isTrue]++
		}
	}
	if counts[true] < 1000 || counts[false] < 1000 {
		t.Error("the numbers of results are", counts)
	}
}

func TestLimitsOfFormulasOfClauses(t *testing.T) {
	for count := 1; count <= impl.MaxLiterals; count++ {
		for negatives := range count + 1 {
			for variables := range 40 {
				c, rest := impl.Clause{}, nodes(names(variables)...)
				for i := range count {
					own := rest[:min(20, len(rest))]
					rest = rest[len(own):]
					c.Literals = append(c.Literals, impl.Literal{Positive: i >= negatives, Atom: leaves(append(slices.Clone(own), node("a"))...)})
					c.Literals[i].Atom.Name = "p" + strconv.Itoa(i)
				}
				if len(rest) > 0 {
					continue
				}
				size := count + negatives + count - 1 + variables
				if f, ok := checkFormulaOf(t, c); ok != (size <= 40) || ok && plainSize(f) != size {
					t.Errorf("%d literals, %d of them negative, and %d variables: %s, %v", count, negatives, variables, formulaText(f), ok)
				}
			}
		}
	}
}

func TestInvalidClausesHaveNoFormula(t *testing.T) {
	for i, c := range invalidClauses() {
		if f, ok := impl.FormulaOf(c); !isZeroFormula(f) || ok {
			t.Errorf("%d: FormulaOf: %s, %v", i, formulaText(f), ok)
		}
	}
}

// checkNoFormula tests that no function has a result for an invalid Formula.
func checkNoFormula(t *testing.T, i int, f impl.Formula) {
	t.Helper()
	if impl.IsValidFormula(f) {
		t.Error("IsValidFormula:", i)
	}
	if n, ok := impl.FormulaSize(f); n != 0 || ok {
		t.Error("FormulaSize:", i, n, ok)
	}
	if list, ok := impl.FreeVariables(f); len(list) != 0 || ok {
		t.Error("FreeVariables:", i, list, ok)
	}
	for _, e := range []impl.Term{node("a"), node("X"), node("f", node("Y")), {}, node("X", node("a"))} {
		for _, name := range []string{"X", "Q", "", "x"} {
			if r, ok := impl.SubstituteFormula(f, name, e); !isZeroFormula(r) || ok {
				t.Error("SubstituteFormula:", i, name, ok)
			}
		}
	}
	for _, other := range []impl.Formula{formula("r"), formula("p(X)"), formula("all X.p(X)"), formula("~~true"), {}, f} {
		for _, pair := range [][2]impl.Formula{{f, other}, {other, f}} {
			if yes, ok := impl.AlphaEqual(pair[0], pair[1]); yes || ok {
				t.Error("AlphaEqual:", i, yes, ok)
			}
		}
	}
	if r, ok := impl.CloseFormula(f); !isZeroFormula(r) || ok {
		t.Error("CloseFormula:", i, ok)
	}
	if text, ok := impl.FormatFormula(f); text != "" || ok {
		t.Error("FormatFormula:", i, text, ok)
	}
	if strong, weak, ok := impl.CountQuantifiers(f); strong != 0 || weak != 0 || ok {
		t.Error("CountQuantifiers:", i, strong, weak, ok)
	}
}

func TestInvalidFormulasGiveZeroValues(t *testing.T) {
	for i, f := range append(invalidFormulas(), unboundedFormulas()...) {
		checkNoFormula(t, i, f)
	}
	// Two invalid Formulas that are the same up to bound variables.
	for _, e := range []impl.Term{node("X"), node("=", node("X")), {}} {
		f, g := quantified(impl.OpAll, "X", atomic(e)), quantified(impl.OpAll, "Y", atomic(e))
		if yes, ok := impl.AlphaEqual(f, g); yes || ok {
			t.Error("AlphaEqual:", e, yes, ok)
		}
	}
}

// formulaWithRoom copies a formula so that its lists have elements beyond their lengths.
func formulaWithRoom(f impl.Formula) impl.Formula {
	room := []impl.Formula{}
	for _, part := range f.Parts {
		room = append(room, formulaWithRoom(part))
	}
	room = append(room, quantified(impl.OpAll, "X", atomic(node("beyond"))), impl.Formula{})
	return impl.Formula{Op: f.Op, Atom: withRoom(f.Atom), Var: f.Var, Parts: room[:len(f.Parts)]}
}

// isFormulaKept reports whether r is f as formulaWithRoom has copied it.
func isFormulaKept(r, f impl.Formula) bool {
	if !sameFormula(r, f) || !roomIsKept(r.Atom) {
		return false
	}
	room := r.Parts[:len(r.Parts)+2]
	for i, part := range f.Parts {
		if !isFormulaKept(room[i], part) {
			return false
		}
	}
	return sameFormula(room[len(f.Parts)], quantified(impl.OpAll, "X", atomic(node("beyond")))) && isZeroFormula(room[len(f.Parts)+1])
}

// spoilFormula changes all memory of a formula, also that beyond the lengths of its lists.
func spoilFormula(f *impl.Formula) {
	spoil(&f.Atom)
	all := f.Parts[:cap(f.Parts)]
	for i := range all {
		spoilFormula(&all[i])
		all[i] = atomic(node("spoilt"))
	}
	f.Op, f.Var = -1, "Spoi"
}

// memoryFormulas lists formulas, some of which are not valid.
func memoryFormulas() []impl.Formula {
	list := slices.Concat(formulas(), formulasOfSize(41), []impl.Formula{{}})
	for _, f := range malformed() {
		list = append(list, joined(impl.OpAnd, atomic(node("p", node("X"))), f))
	}
	return append(list, atomic(node("X")), negated(atomic(node("f", node("=", node("X"), node("X"))))), quantified(impl.OpAll, "x", atomic(node("p", node("X")))), formula("(p(X) & (q(X,Y) | all Y.r(X,f(X),Y)))"), formula("some Y.q(X,Y)"))
}

func TestFormulaArgumentsAreNotChanged(t *testing.T) {
	list := memoryFormulas()
	terms := []impl.Term{node("a"), node("X"), node("Y"), node("f", node("X"), node("Z")), node("f", node("X", node("a"))), bush(29)}
	for i, f := range list {
		g := list[(i*7+3)%len(list)]
		if i%2 == 0 {
			g = f
		}
		for j, name := range []string{"X", "Y", "", "Zab9"} {
			e := terms[(i+j)%len(terms)]
			first, second, term := formulaWithRoom(f), formulaWithRoom(g), withRoom(e)
			impl.IsValidFormula(first)
			impl.FormulaSize(first)
			impl.FreeVariables(first)
			impl.SubstituteFormula(first, name, term)
			impl.AlphaEqual(first, second)
			impl.CloseFormula(first)
			impl.FormatFormula(first)
			impl.CountQuantifiers(first)
			if !isFormulaKept(first, f) || !isFormulaKept(second, g) || !same(term, e) || !roomIsKept(term) {
				t.Fatalf("%s, %s or %v is changed", formulaText(f), formulaText(g), e)
			}
		}
	}
	for _, c := range memoryClauses() {
		room := clauseWithRoom(c)
		impl.FormulaOf(room)
		if !isClauseKept(room, c) {
			t.Fatalf("%s is changed", clauseText(c))
		}
	}
}

func TestFormulasBeyondTheLengthAreNotRead(t *testing.T) {
	for _, f := range append(formulas(), smallFormulas(2)[:3000]...) {
		room := formulaWithRoom(f)
		if n, ok := impl.FormulaSize(room); !impl.IsValidFormula(room) || n != plainSize(f) || !ok {
			t.Fatalf("the size of %s is %d, %v", formulaText(f), n, ok)
		}
		if list, ok := impl.FreeVariables(room); !slices.Equal(list, plainFree(f)) || !ok {
			t.Fatalf("the free variables of %s are %q, %v", formulaText(f), list, ok)
		}
		checkSubstituted(t, room, "X", withRoom(node("f", node("Y"))))
		checkAlpha(t, room, f)
		checkClosed(t, room)
		if text, ok := impl.FormatFormula(room); text != formulaText(f) || !ok {
			t.Fatalf("the text of %s is %q, %v", formulaText(f), text, ok)
		}
		strong, weak, ok := impl.CountQuantifiers(room)
		if g := pushed(f, false); strong != plainCount(g, impl.OpAll) || weak != plainCount(g, impl.OpExists) || !ok {
			t.Fatalf("%s has %d strong and %d weak quantifiers, %v", formulaText(f), strong, weak, ok)
		}
	}
	for _, c := range append(clauses(), wideClauses()...) {
		checkFormulaOf(t, clauseWithRoom(c))
	}
	for i, f := range malformed() {
		if impl.IsValidFormula(formulaWithRoom(f)) {
			t.Errorf("%d: a malformed formula is valid with elements beyond the lengths", i)
		}
	}
}

// regions lists the memory of all slices in a value, also that beyond their lengths.
func regions(v reflect.Value) [][2]uintptr {
	list := [][2]uintptr{}
	switch v.Kind() {
	case reflect.Struct:
		for i := range v.NumField() {
			list = append(list, regions(v.Field(i))...)
		}
	case reflect.Slice:
		if v.Cap() > 0 {
			list = append(list, [2]uintptr{v.Pointer(), v.Pointer() + uintptr(v.Cap())*v.Type().Elem().Size()})
		}
		for i := range v.Cap() {
			list = append(list, regions(v.Slice(0, v.Cap()).Index(i))...)
		}
	}
	return list
}

// checkMemory tests that a result shares no memory with an argument or within itself.
func checkMemory(t *testing.T, name string, result any, args ...any) {
	t.Helper()
	own, others := regions(reflect.ValueOf(result)), [][2]uintptr{}
	for _, arg := range args {
		others = append(others, regions(reflect.ValueOf(arg))...)
	}
	for i, a := range own {
		for _, b := range append(slices.Clone(own[i+1:]), others...) {
			if a[0] < b[1] && b[0] < a[1] {
				t.Fatalf("the result of %s shares memory: %v", name, result)
			}
		}
	}
}

func TestFormulaResultsAreInNewMemory(t *testing.T) {
	// The arguments use the same memory in many places.
	one := node("g", node("f", node("X")), node("Y"))
	two := node("g", one, one)
	p, q := atomic(node("p", one, two)), atomic(node("=", one, node("X")))
	pair := joined(impl.OpOr, negated(q), quantified(impl.OpExists, "X", p))
	list := append(memoryFormulas(), pair, joined(impl.OpAnd, pair, pair), quantified(impl.OpAll, "Z", joined(impl.OpImplies, joined(impl.OpOr, p, p), joined(impl.OpAnd, q, q))))
	for _, f := range list {
		for i, e := range []impl.Term{node("a"), one.Args[0], node("h", one.Args[0], one.Args[0]), node("X"), two} {
			for _, name := range []string{"X", "Y", "Z"} {
				first, term := formulaWithRoom(f), withRoom(e)
				if i > 3 {
					first, term = f, e
				}
				r, _ := impl.SubstituteFormula(first, name, term)
				checkMemory(t, "SubstituteFormula", r, first, term)
			}
		}
		for _, arg := range []impl.Formula{f, formulaWithRoom(f)} {
			closed, _ := impl.CloseFormula(arg)
			checkMemory(t, "CloseFormula", closed, arg)
			free, _ := impl.FreeVariables(arg)
			again, _ := impl.FreeVariables(arg)
			checkMemory(t, "FreeVariables", free, arg, again)
			text := formulaText(f)
			parsed, _ := impl.ParseFormula(text)
			other, _ := impl.ParseFormula(text)
			checkMemory(t, "ParseFormula", parsed, other, arg)
		}
	}
	literals := []impl.Literal{no(one), yes(one), yes(two), yes(node("h", one, two)), no(node("=", one, one)), yes(node("=", one, two))}
	made, _ := impl.MakeClause(literals)
	for _, c := range append(memoryClauses(), clauseOf(no(one), yes(one)), clauseOf(yes(one), yes(node("h", one, two))), made) {
		for _, arg := range []impl.Clause{c, clauseWithRoom(c)} {
			f, _ := impl.FormulaOf(arg)
			checkMemory(t, "FormulaOf", f, arg)
		}
	}
}

func TestFormulaCallsKeepNothing(t *testing.T) {
	f, c, e := formula("(p(X) & some Y.q(X,Y))"), clause("~p(X) | q(X,Y)"), expr("f(Z)")
	for range 3 {
		r, _ := impl.SubstituteFormula(f, "X", e)
		closed, _ := impl.CloseFormula(f)
		parsed, _ := impl.ParseFormula("all X.(p(X) => ~r)")
		of, _ := impl.FormulaOf(c)
		free, _ := impl.FreeVariables(f)
		yes, ok := impl.AlphaEqual(f, formula("(p(X) & some Z.q(X,Z))"))
		if formulaText(r) != "(p(f(Z)) & some Y.q(f(Z),Y))" || formulaText(closed) != "all X.(p(X) & some Y.q(X,Y))" || formulaText(parsed) != "all X.(p(X) => ~r)" || formulaText(of) != "all X.all Y.(~p(X) | q(X,Y))" || !slices.Equal(free, []string{"X"}) || !yes || !ok {
			t.Fatal(formulaText(r), formulaText(closed), formulaText(parsed), formulaText(of), free, yes, ok)
		}
		for _, result := range []*impl.Formula{&r, &closed, &parsed, &of} {
			spoilFormula(result)
		}
		free[0] = "spoilt"
	}
}
