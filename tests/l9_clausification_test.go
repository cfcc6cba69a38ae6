package tests

import (
	"maps"
	"math/rand/v2"
	"slices"
	"strconv"
	"strings"
	"testing"

	"loop.example/g00892/impl"
)

// formulaList has the formulas with the given texts.
func formulaList(texts ...string) []impl.Formula {
	list := []impl.Formula{}
	for _, text := range texts {
		list = append(list, formula(text))
	}
	return list
}

// textsOf has the texts of the elements of a list with semicolons between them.
func textsOf[T any](list []T, text func(element T) string) string {
	texts := []string{}
	for _, element := range list {
		texts = append(texts, text(element))
	}
	return strings.Join(texts, "; ")
}

func formulaTextsOf(list []impl.Formula) string {
	return textsOf(list, formulaText)
}

func clauseTexts(list []impl.Clause) string {
	return textsOf(list, clauseText)
}

// definition is what a text like "d1(X,Y): (p(X) & p(Y))" says.
func definition(s string) impl.Definition {
	head, text, _ := strings.Cut(s, ": ")
	atom := expr(head)
	d := impl.Definition{Name: atom.Name, Formula: formula(text)}
	for _, arg := range atom.Args {
		d.Vars = append(d.Vars, arg.Name)
	}
	return d
}

func definitions(texts ...string) []impl.Definition {
	list := []impl.Definition{}
	for _, text := range texts {
		list = append(list, definition(text))
	}
	return list
}

func definitionTexts(list []impl.Definition) string {
	return textsOf(list, func(d impl.Definition) string {
		return termText(node(d.Name, nodes(d.Vars...)...)) + ": " + formulaText(d.Formula)
	})
}

func sameDefinition(a, b impl.Definition) bool {
	return a.Name == b.Name && slices.Equal(a.Vars, b.Vars) && sameFormula(a.Formula, b.Formula)
}

func cloneDefinition(d impl.Definition) impl.Definition {
	return impl.Definition{Name: d.Name, Vars: slices.Clone(d.Vars), Formula: cloneFormula(d.Formula)}
}

// joinedAll combines formulas from the right.
func joinedAll(op int, list ...impl.Formula) impl.Formula {
	f := list[len(list)-1]
	for i := len(list) - 2; i >= 0; i-- {
		f = joined(op, list[i], f)
	}
	return f
}

// propositions lists the given number of atoms, prefix0, prefix1 and so on.
func propositions(prefix string, count int) []impl.Formula {
	list := []impl.Formula{}
	for i := range count {
		list = append(list, atomic(node(prefix+strconv.Itoa(i))))
	}
	return list
}

func negatedAll(list []impl.Formula) []impl.Formula {
	result := []impl.Formula{}
	for _, f := range list {
		result = append(result, negated(f))
	}
	return result
}

// The definitions of the document, written down once more.

// plainNormalForm applies one law after the other, each at the root before the parts.
func plainNormalForm(f impl.Formula) impl.Formula {
	switch {
	case f.Op == impl.OpImplies:
		return plainNormalForm(joined(impl.OpOr, negated(f.Parts[0]), f.Parts[1]))
	case f.Op == impl.OpNot && f.Parts[0].Op != impl.OpAtom:
		return plainNormalForm(lawOf(f.Parts[0]))
	}
	r := impl.Formula{Op: f.Op, Atom: f.Atom, Var: f.Var}
	for _, part := range f.Parts {
		r.Parts = append(r.Parts, plainNormalForm(part))
	}
	return r
}

// lawOf is what the negation of f, which is no atom, becomes in one step.
func lawOf(f impl.Formula) impl.Formula {
	switch f.Op {
	case impl.OpTrue:
		return constant(impl.OpFalse)
	case impl.OpFalse:
		return constant(impl.OpTrue)
	case impl.OpNot:
		return f.Parts[0]
	case impl.OpAnd:
		return joined(impl.OpOr, negated(f.Parts[0]), negated(f.Parts[1]))
	case impl.OpOr:
		return joined(impl.OpAnd, negated(f.Parts[0]), negated(f.Parts[1]))
	case impl.OpImplies:
		return joined(impl.OpAnd, f.Parts[0], negated(f.Parts[1]))
	case impl.OpAll:
		return quantified(impl.OpExists, f.Var, negated(f.Parts[0]))
	}
	return quantified(impl.OpAll, f.Var, negated(f.Parts[0]))
}

func isPlainNormalForm(f impl.Formula) bool {
	return sameFormula(plainNormalForm(f), f)
}

// plainSeparate gives each quantifier a name of its own before any variable gets its new one.
func plainSeparate(f impl.Formula) impl.Formula {
	count := 0
	var mark func(f impl.Formula) impl.Formula
	mark = func(f impl.Formula) impl.Formula {
		r := impl.Formula{Op: f.Op, Atom: f.Atom}
		if isQuantifier(f) {
			r.Var = "#" + strconv.Itoa(count)
			count++
		}
		for _, part := range f.Parts {
			if isQuantifier(f) {
				part = replaceFree(part, f.Var, node(r.Var))
			}
			r.Parts = append(r.Parts, mark(part))
		}
		return r
	}
	marked, names, free := mark(f), map[string]impl.Term{}, plainFree(f)
	for number := 1; len(names) < count; number++ {
		if name := "V" + strconv.Itoa(number); !slices.Contains(free, name) {
			names["#"+strconv.Itoa(len(names))] = node(name)
		}
	}
	return renamedAll(marked, names)
}

// renamedAll renames all occurrences of variables and the quantifiers.
func renamedAll(f impl.Formula, names map[string]impl.Term) impl.Formula {
	r := impl.Formula{Op: f.Op, Atom: plainApply(names, f.Atom), Var: f.Var}
	if e, found := names[f.Var]; found {
		r.Var = e.Name
	}
	for _, part := range f.Parts {
		r.Parts = append(r.Parts, renamedAll(part, names))
	}
	return r
}

// boundIn lists the variables of the quantifiers in preorder.
func boundIn(f impl.Formula) []string {
	list := []string{}
	if isQuantifier(f) {
		list = append(list, f.Var)
	}
	for _, part := range f.Parts {
		list = append(list, boundIn(part)...)
	}
	return list
}

func isPlainSeparated(f impl.Formula) bool {
	list := append(boundIn(f), plainFree(f)...)
	slices.Sort(list)
	return len(slices.Compact(slices.Clone(list))) == len(list)
}

// allNames collects the names in the atoms of a formula.
func allNames(f impl.Formula) map[string]bool {
	set := map[string]bool{}
	var read func(e impl.Term)
	read = func(e impl.Term) {
		set[e.Name] = true
		for _, arg := range e.Args {
			read(arg)
		}
	}
	if f.Op == impl.OpAtom {
		read(f.Atom)
	}
	for _, part := range f.Parts {
		maps.Copy(set, allNames(part))
	}
	return set
}

// plainSkolemize removes the first existential quantifier until there is none.
func plainSkolemize(f impl.Formula, used []string) (impl.Formula, bool) {
	if !isProperFormula(f) || !isPlainSeparated(f) || !isPlainNormalForm(f) {
		return impl.Formula{}, false
	}
	taken, number, fits := allNames(f), 0, true
	for _, name := range used {
		taken[name] = true
	}
	var remove func(f impl.Formula, scope []impl.Term) (impl.Formula, bool)
	remove = func(f impl.Formula, scope []impl.Term) (impl.Formula, bool) {
		if f.Op == impl.OpExists {
			for number++; taken["sk"+strconv.Itoa(number)]; number++ {
			}
			fits = fits && len(scope) <= 4
			return replaceFree(f.Parts[0], f.Var, node("sk"+strconv.Itoa(number), scope...)), true
		}
		if f.Op == impl.OpAll {
			scope = append(slices.Clone(scope), node(f.Var))
		}
		for i, part := range f.Parts {
			if r, isRemoved := remove(part, scope); isRemoved {
				g := impl.Formula{Op: f.Op, Var: f.Var, Parts: slices.Clone(f.Parts)}
				g.Parts[i] = r
				return g, true
			}
		}
		return f, false
	}
	r, free := f, nodes(plainFree(f)...)
	for isRemoved := true; isRemoved; {
		r, isRemoved = remove(r, free)
	}
	if !fits || !isProperFormula(r) {
		return impl.Formula{}, false
	}
	return r, true
}

// plainList removes tautologies and clauses that occur earlier, and counts what remains.
func plainList(list []impl.Clause) ([]impl.Clause, bool) {
	result := []impl.Clause{}
	for _, c := range list {
		isSame := func(other impl.Clause) bool { return sameClause(c, other) }
		if !isPlainTautology(c) && !slices.ContainsFunc(result, isSame) {
			result = append(result, c)
		}
	}
	return result, len(result) <= 30
}

// plainClauses lists the clauses before they are normalized.
func plainClauses(f impl.Formula) ([]impl.Clause, bool) {
	switch f.Op {
	case impl.OpTrue:
		return nil, true
	case impl.OpFalse:
		return []impl.Clause{{}}, true
	case impl.OpAtom:
		return plainList([]impl.Clause{clauseOf(yes(f.Atom))})
	case impl.OpNot:
		return plainList([]impl.Clause{clauseOf(no(f.Parts[0].Atom))})
	case impl.OpAll:
		return plainClauses(f.Parts[0])
	}
	first, firstOk := plainClauses(f.Parts[0])
	second, secondOk := plainClauses(f.Parts[1])
	all := slices.Concat(first, second)
	if f.Op == impl.OpOr {
		all = nil
		for _, c := range first {
			for _, d := range second {
				union, ok := plainMake(slices.Concat(c.Literals, d.Literals))
				firstOk = firstOk && ok
				all = append(all, union)
			}
		}
	}
	list, ok := plainList(all)
	return list, ok && firstOk && secondOk
}

func plainClauseForm(f impl.Formula) ([]impl.Clause, bool) {
	if !isProperFormula(f) || !isPlainSeparated(f) || !isPlainNormalForm(f) || plainCount(f, impl.OpExists) > 0 {
		return nil, false
	}
	list, ok := plainClauses(f)
	if !ok {
		return nil, false
	}
	for i := range list {
		list[i], _ = plainNormalize(list[i])
	}
	return plainList(list)
}

// conjunctionsIn lists the conjunctions in f that are parts of disjunctions, in preorder.
func conjunctionsIn(f *impl.Formula) []*impl.Formula {
	list := []*impl.Formula{}
	for i := range f.Parts {
		part := &f.Parts[i]
		if f.Op == impl.OpOr && part.Op == impl.OpAnd {
			list = append(list, part)
		}
		list = append(list, conjunctionsIn(part)...)
	}
	return list
}

// plainDefine replaces the first conjunction that has none in it until there is none.
func plainDefine(f impl.Formula) (impl.Formula, []impl.Definition, bool) {
	if !isProperFormula(f) || len(boundIn(f)) > 0 || !isPlainNormalForm(f) {
		return impl.Formula{}, nil, false
	}
	r, list, taken, number := cloneFormula(f), []impl.Definition{}, allNames(f), 0
	for {
		all := conjunctionsIn(&r)
		i := slices.IndexFunc(all, func(g *impl.Formula) bool { return len(conjunctionsIn(g)) == 0 })
		if i < 0 {
			return r, list, true
		}
		for number++; taken["d"+strconv.Itoa(number)]; number++ {
		}
		d := impl.Definition{Name: "d" + strconv.Itoa(number), Vars: plainFree(*all[i]), Formula: cloneFormula(*all[i])}
		if len(d.Vars) > 4 {
			return impl.Formula{}, nil, false
		}
		list = append(list, d)
		*all[i] = atomic(node(d.Name, nodes(d.Vars...)...))
	}
}

// plainUnfoldOne replaces the atoms of one definition, and reports whether all of them fit it.
func plainUnfoldOne(f impl.Formula, d impl.Definition) (impl.Formula, bool) {
	if f.Op == impl.OpAtom && f.Atom.Name == d.Name {
		if len(f.Atom.Args) != len(d.Vars) {
			return impl.Formula{}, false
		}
		m := map[string]impl.Term{}
		for i, name := range d.Vars {
			m[name] = f.Atom.Args[i]
		}
		return renamedAll(d.Formula, m), true
	}
	r, fits := impl.Formula{Op: f.Op, Atom: f.Atom}, true
	for _, part := range f.Parts {
		unfolded, ok := plainUnfoldOne(part, d)
		r.Parts = append(r.Parts, unfolded)
		fits = fits && ok
	}
	return r, fits
}

func isProperDefinition(d impl.Definition) bool {
	for i, name := range d.Vars {
		if !variableName.MatchString(name) || i > 0 && d.Vars[i-1] >= name {
			return false
		}
	}
	return impl.IsValidTerm(node(d.Name)) && !isVariable(node(d.Name)) && isProperFormula(d.Formula) && len(boundIn(d.Formula)) == 0
}

func plainUnfold(f impl.Formula, list []impl.Definition) (impl.Formula, bool) {
	if !isProperFormula(f) || len(boundIn(f)) > 0 {
		return impl.Formula{}, false
	}
	for _, d := range list {
		if !isProperDefinition(d) {
			return impl.Formula{}, false
		}
	}
	for i := len(list) - 1; i >= 0; i-- {
		unfolded, ok := plainUnfoldOne(f, list[i])
		if !ok || !isProperFormula(unfolded) {
			return impl.Formula{}, false
		}
		f = unfolded
	}
	return f, true
}

func plainClausify(axioms []impl.Formula, goal impl.Formula) ([]impl.Clause, bool) {
	list, used, all := []impl.Formula{}, map[string]bool{}, []impl.Clause{}
	for _, f := range append(slices.Clone(axioms), goal) {
		if !isProperFormula(f) {
			return nil, false
		}
		list = append(list, plainClose(f))
		maps.Copy(used, allNames(f))
	}
	list[len(axioms)] = negated(list[len(axioms)])
	for _, f := range list {
		normal := plainNormalForm(f)
		if !isProperFormula(f) || !isProperFormula(normal) {
			return nil, false
		}
		universal, ok := plainSkolemize(plainSeparate(normal), slices.Collect(maps.Keys(used)))
		if !ok {
			return nil, false
		}
		maps.Copy(used, allNames(universal))
		clauses, ok := plainClauseForm(universal)
		if !ok {
			return nil, false
		}
		all = append(all, clauses...)
	}
	return plainList(all)
}

// A structure is a model in which tables say what some functions mean.
type structure struct {
	model
	tables map[string][]int
}

// flat has the values of the arguments of an expression in place of the arguments.
func (s structure) flat(e impl.Term, assignment map[string]int) (impl.Term, map[string]int, int) {
	flat, values, index := impl.Term{Name: e.Name}, map[string]int{}, 0
	for i, arg := range e.Args {
		name := "E" + strconv.Itoa(i)
		values[name] = s.value(arg, assignment)
		flat.Args = append(flat.Args, node(name))
		index = index*s.size + values[name]
	}
	return flat, values, index
}

func (s structure) value(e impl.Term, assignment map[string]int) int {
	if isVariable(e) {
		return assignment[e.Name]
	}
	flat, values, index := s.flat(e, assignment)
	if table, found := s.tables[e.Name]; found {
		return table[index]
	}
	return s.model.value(flat, values)
}

func (s structure) isTrue(c impl.Clause) bool {
	for _, assignment := range s.assignments(namesInOrder(c)) {
		isTrue := slices.ContainsFunc(c.Literals, func(l impl.Literal) bool {
			flat, values, _ := s.flat(l.Atom, assignment)
			return s.model.satisfies(impl.Literal{Positive: l.Positive, Atom: flat}, values)
		})
		if !isTrue {
			return false
		}
	}
	return true
}

// introduced maps the functions in the clauses that are not in the set to their numbers of
// arguments.
func introduced(list []impl.Clause, known map[string]bool) map[string]int {
	arities := map[string]int{}
	var read func(e impl.Term)
	read = func(e impl.Term) {
		if !known[e.Name] && !isVariable(e) {
			arities[e.Name] = len(e.Args)
		}
		for _, arg := range e.Args {
			read(arg)
		}
	}
	for _, c := range list {
		for _, l := range c.Literals {
			read(l.Atom)
		}
	}
	return arities
}

// hasExpansion reports whether the functions can be given values so that all clauses are true in
// m. The second result is false if there are too many values to try.
func (m model) hasExpansion(list []impl.Clause, arities map[string]int) (bool, bool) {
	s, entries := structure{m, map[string][]int{}}, []*int{}
	for name, arity := range arities {
		count := 1
		for range arity {
			count *= m.size
		}
		s.tables[name] = make([]int, count)
		for i := range count {
			entries = append(entries, &s.tables[name][i])
		}
	}
	if len(entries) > 8 {
		return false, false
	}
	for {
		if !slices.ContainsFunc(list, func(c impl.Clause) bool { return !s.isTrue(c) }) {
			return true, true
		}
		i := slices.IndexFunc(entries, func(entry *int) bool { return *entry < m.size-1 })
		if i < 0 {
			return false, true
		}
		*entries[i]++
		for _, entry := range entries[:i] {
			*entry = 0
		}
	}
}

// randomOpen has no quantifiers and is in negation normal form.
func randomOpen(source *rand.Rand, size int, leaves ...string) impl.Formula {
	switch i := source.IntN(12); {
	case size < 3 && i == 0:
		return constant(impl.OpTrue + source.IntN(2))
	case size < 3 || i == 1:
		l := literalOver(source, leaves)
		if l.Positive || size < 2 {
			return atomic(l.Atom)
		}
		return negated(atomic(l.Atom))
	}
	first := 1 + source.IntN(size-2)
	return joined(impl.OpAnd+source.IntN(2), randomOpen(source, first, leaves...), randomOpen(source, size-1-first, leaves...))
}

// normalFormulas lists valid formulas in negation normal form.
func normalFormulas() []impl.Formula {
	list := []impl.Formula{}
	for i, f := range append(formulas(), smallFormulas(2)...) {
		if f = plainNormalForm(f); isProperFormula(f) && (i%5 == 0 || plainSize(f) > 6) {
			list = append(list, f)
		}
	}
	source := rand.New(rand.NewPCG(9, 1))
	for range 3000 {
		if f := plainNormalForm(randomFormula(source, 1+source.IntN(20), "X", "Y", "Z", "a")); isProperFormula(f) {
			list = append(list, f)
		}
		list = append(list, randomOpen(source, 1+source.IntN(16), "X", "Y", "Z", "a"))
	}
	return list
}

func TestClauseFormExamples(t *testing.T) {
	x, r := node("X"), atomic(node("r"))
	p, q := atomic(node("p", x)), atomic(node("q", x, x))
	if f, ok := impl.NegationNormalForm(negated(joined(impl.OpImplies, p, r))); !sameFormula(f, joined(impl.OpAnd, p, negated(r))) || !ok {
		t.Errorf("the negation of (p(X) => r) becomes %s, %v", formulaText(f), ok)
	}
	separated := joined(impl.OpAnd, atomic(node("q", node("V1"), x)), quantified(impl.OpAll, "V2", atomic(node("p", node("V2")))))
	if f, ok := impl.SeparateVariables(joined(impl.OpAnd, atomic(node("q", node("V1"), x)), quantified(impl.OpAll, "X", p))); !sameFormula(f, separated) || !ok {
		t.Errorf("q(V1,X) & all X.p(X) becomes %s, %v", formulaText(f), ok)
	}
	v1, v2 := node("V1"), node("V2")
	skolemized := quantified(impl.OpAll, "V1", atomic(node("q", v1, node("sk1", v1))))
	if f, ok := impl.Skolemize(quantified(impl.OpAll, "V1", quantified(impl.OpExists, "V2", atomic(node("q", v1, v2)))), nil); !sameFormula(f, skolemized) || !ok {
		t.Errorf("all V1.some V2.q(V1,V2) becomes %s, %v", formulaText(f), ok)
	}
	list, ok := impl.ClauseForm(joined(impl.OpOr, joined(impl.OpAnd, p, r), q))
	x0 := node("X0")
	want := []impl.Clause{clauseOf(yes(node("p", x0)), yes(node("q", x0, x0))), clauseOf(yes(node("q", x0, x0)), yes(node("r")))}
	if !slices.EqualFunc(list, want, sameClause) || !ok {
		t.Errorf("((p(X) & r) | q(X,X)) gives the clauses %s, %v", clauseTexts(list), ok)
	}
	if impl.MaxClauses != 30 {
		t.Error(impl.MaxClauses)
	}
}

func TestNegationNormalForm(t *testing.T) {
	for text, want := range map[string]string{
		"true": "true", "false": "false", "r": "r", "a = b": "a = b", "~r": "~r", "~(a = b)": "~(a = b)", "(r & s)": "(r & s)", "(r | s)": "(r | s)", "(r => s)": "(~r | s)", "all X.p(X)": "all X.p(X)", "some X.p(X)": "some X.p(X)",
		// Negations of every Op.
		"~true": "false", "~false": "true", "~~r": "r", "~(r & s)": "(~r | ~s)", "~(r | s)": "(~r & ~s)", "~(r => s)": "(r & ~s)", "~all X.p(X)": "some X.~p(X)", "~some X.p(X)": "all X.~p(X)",
		// Doubled ones.
		"~~true": "true", "~~false": "false", "~~~r": "~r", "~~~~r": "r", "~~(a = b)": "a = b", "~~(r & s)": "(r & s)", "~~(r | s)": "(r | s)", "~~(r => s)": "(~r | s)", "~~~(r => s)": "(r & ~s)", "~~all X.p(X)": "all X.p(X)", "~~some X.p(X)": "some X.p(X)", "~~~all X.p(X)": "some X.~p(X)",
		"~(~r & ~s)": "(r | s)", "~(~r | ~s)": "(r & s)", "~(~r => ~s)": "(~r & s)", "~all X.~p(X)": "some X.p(X)", "~some X.~p(X)": "all X.p(X)", "~(~~r & ~~s)": "(~r | ~s)",
		// In both parts of an implication.
		"(true => false)": "(false | false)", "(~true => ~false)": "(true | true)", "(~r => ~s)": "(r | ~s)", "(~~r => ~~s)": "(~r | s)", "(a = b => ~(b = a))": "(~(a = b) | ~(b = a))", "((r & s) => (s & r))": "((~r | ~s) | (s & r))", "((r | s) => (s | r))": "((~r & ~s) | (s | r))", "((r => s) => (s => r))": "((r & ~s) | (~s | r))",
		"(all X.p(X) => all Y.p(Y))": "(some X.~p(X) | all Y.p(Y))", "(some X.p(X) => some X.p(X))": "(all X.~p(X) | some X.p(X))", "(~(r & s) => ~(r | s))": "((r & s) | (~r & ~s))", "(~(r => s) => ~(s => r))": "((~r | s) | (s & ~r))", "(~all X.p(X) => ~some X.p(X))": "(all X.p(X) | all X.~p(X))",
		"~(true => false)": "(true & true)", "~((r & s) => (s & r))": "((r & s) & (~s | ~r))", "~((r => s) => (s => r))": "((~r | s) & (s & ~r))", "~(all X.p(X) => some Y.p(Y))": "(all X.p(X) & all Y.~p(Y))", "(((r => s) => r) => s)": "(((~r | s) & ~r) | s)", "~(((r => s) => r) => s)": "(((r & ~s) | r) & ~s)",
		// Deep inside, with the order of the parts kept.
		"all X.~some Y.(q(X,Y) => ~all Z.r(X,Y,Z))": "all X.all Y.(q(X,Y) & all Z.r(X,Y,Z))", "~(r & (s | ~(a = X)))": "(~r | (~s & a = X))", "(p & ~(q & ~(r & ~s)))": "(p & (~q | (r & ~s)))", "~~all X.~~(p(X) => ~~r)": "all X.(~p(X) | r)", "~all X.all X.p(X)": "some X.some X.~p(X)", "~(p(X) & all X.p(X))": "(~p(X) | some X.~p(X))",
	} {
		if f, ok := impl.NegationNormalForm(formula(text)); formulaText(f) != want || !ok {
			t.Errorf("the negation normal form of %s is %s, %v", text, formulaText(f), ok)
		}
	}
}

// checkNormalForm tests the negation normal form of one valid formula against the definition.
func checkNormalForm(t *testing.T, f impl.Formula) (impl.Formula, bool) {
	t.Helper()
	want := plainNormalForm(f)
	fits := isProperFormula(want)
	r, ok := impl.NegationNormalForm(f)
	if ok != fits || ok && !sameFormula(r, want) || !ok && !isZeroFormula(r) {
		t.Fatalf("the negation normal form of %s is %s, %v", formulaText(f), formulaText(r), ok)
	}
	if yes, fine := impl.IsNegationNormal(f); yes != sameFormula(want, f) || !fine {
		t.Fatalf("%s is in negation normal form: %v, %v", formulaText(f), yes, fine)
	}
	if yes, fine := impl.IsNegationNormal(r); ok && (!yes || !fine) {
		t.Fatalf("%s, the form of %s, is in negation normal form: %v, %v", formulaText(r), formulaText(f), yes, fine)
	}
	return r, ok
}

func TestNormalFormsFollowTheDefinition(t *testing.T) {
	list, source, counts := append(formulas(), smallFormulas(2)...), rand.New(rand.NewPCG(9, 2)), map[string]int{}
	for range 20000 {
		list = append(list, randomFormula(source, 1+source.IntN(40), "X", "Y", "a"))
	}
	for _, f := range list {
		r, ok := checkNormalForm(t, f)
		counts[strconv.FormatBool(ok)]++
		if again, fine := impl.NegationNormalForm(r); ok && (!sameFormula(again, r) || !fine) {
			t.Fatalf("the negation normal form of %s is %s, %v", formulaText(r), formulaText(again), fine)
		}
		if ok && plainSize(r) > plainSize(f) {
			counts["grown"]++
		}
		if sameFormula(r, f) {
			counts["same"]++
		}
	}
	if counts["true"] < 20000 || counts["false"] < 30 || counts["grown"] < 1000 || counts["same"] < 1000 {
		t.Error("the numbers of results are", counts)
	}
}

func TestLimitsOfNormalForms(t *testing.T) {
	// Of count atoms, some have a negation that is removed, and each other one gets one.
	for count := 1; count <= 20; count++ {
		for double := range count + 1 {
			for _, op := range []int{impl.OpAnd, impl.OpOr} {
				parts := propositions("p", count)
				for i := range double {
					parts[i] = negated(parts[i])
				}
				f, size := negated(joinedAll(op, parts...)), 2*count-1+count-double
				if !isProperFormula(f) {
					continue
				}
				if r, ok := checkNormalForm(t, f); ok != (size <= 40) || ok && plainSize(r) != size {
					t.Errorf("%s, of which the form has the size %d, becomes %s, %v", formulaText(f), size, formulaText(r), ok)
				}
				g := joined(impl.OpImplies, f.Parts[0], atomic(node("r")))
				if !isProperFormula(g) {
					continue
				}
				if r, ok := checkNormalForm(t, g); ok != (size+2 <= 40) || ok && plainSize(r) != size+2 {
					t.Errorf("%s, of which the form has the size %d, becomes %s, %v", formulaText(g), size+2, formulaText(r), ok)
				}
			}
		}
	}
	// The greatest formulas keep their size or become smaller, and those that are too great remain so.
	for size := 39; size <= 42; size++ {
		for _, f := range []impl.Formula{
			chainOf(size, atomic(node("r")), func(i int, f impl.Formula) impl.Formula { return negated(f) }),
			chainOf(size, atomic(node("r")), func(i int, f impl.Formula) impl.Formula { return quantified(quantOps[i%2], "X", f) }),
			negated(chainOf(size-1, constant(impl.OpTrue), func(i int, f impl.Formula) impl.Formula { return quantified(quantOps[i%2], "X", f) })),
			negated(negated(balancedOf(size-2, impl.OpAnd))),
		} {
			if plainSize(f) != size {
				t.Fatalf("%s has the size %d instead of %d", formulaText(f), plainSize(f), size)
			}
			r, ok := impl.NegationNormalForm(f)
			if fits := size <= 40; ok != fits || fits && !sameFormula(r, plainNormalForm(f)) || !fits && !isZeroFormula(r) {
				t.Errorf("the negation normal form of %s is %s, %v", formulaText(f), formulaText(r), ok)
			}
		}
	}
}

// balancedOf is a formula of the given size that is as flat as possible and has one operation.
func balancedOf(size int, op int) impl.Formula {
	switch {
	case size < 2:
		return atomic(node("p", node("X")))
	case size == 2:
		return negated(atomic(node("q", node("X"), node("a"))))
	}
	return joined(op, balancedOf(size/2, op), balancedOf(size-1-size/2, op))
}

// sampled calls check with small formulas of which the free variables are X, Y and Z, and models.
func sampled(seed uint64, count int, check func(f impl.Formula, m model)) {
	source, all := rand.New(rand.NewPCG(9, seed)), models()
	for _, f := range smallFormulas(1) {
		for range 3 {
			check(f, all[source.IntN(len(all))])
		}
	}
	for range count {
		f := randomFormula(source, 2+source.IntN(9), "X", "Y", "Z", "a")
		check(f, all[source.IntN(len(all))])
		check(f, all[source.IntN(len(all))])
	}
}

// checkTruth tests that the result of a function is true exactly where its argument is.
func checkTruth(t *testing.T, seed uint64, call func(f impl.Formula) (impl.Formula, bool)) {
	t.Helper()
	counts := map[bool]int{}
	sampled(seed, 6000, func(f impl.Formula, m model) {
		r, ok := call(f)
		if !ok {
			t.Fatalf("there is no result for %s", formulaText(f))
		}
		for _, assignment := range m.assignments(plainFree(f)) {
			isTrue := m.holds(f, assignment)
			if m.holds(r, assignment) != isTrue {
				t.Fatalf("%s is %v, but %s is not", formulaText(f), isTrue, formulaText(r))
			}
			counts[isTrue]++
		}
	})
	if counts[true] < 5000 || counts[false] < 5000 {
		t.Error("the numbers of results are", counts)
	}
}

func TestNormalFormsPreserveTruth(t *testing.T) {
	checkTruth(t, 3, impl.NegationNormalForm)
}

// negationNormalPlaces puts f at the root and at places deep inside formulas that are in negation
// normal form apart from it.
func negationNormalPlaces(f impl.Formula) []impl.Formula {
	r := atomic(node("r"))
	list := []impl.Formula{f}
	for _, op := range []int{impl.OpAnd, impl.OpOr} {
		list = append(list, joined(op, f, r), joined(op, negated(r), f), joined(op, r, joined(impl.OpAnd, r, joined(impl.OpOr, f, r))))
	}
	for _, op := range quantOps {
		list = append(list, quantified(op, "Z9", f), quantified(op, "Z9", joined(impl.OpOr, constant(impl.OpTrue), quantified(impl.OpAll, "Z8", joined(impl.OpAnd, negated(atomic(node("p", node("Z8")))), f)))))
	}
	return list
}

// abnormal lists formulas without quantifiers that are not in negation normal form.
func abnormal() []impl.Formula {
	return formulaList("~true", "~false", "~~r", "~~(a = b)", "~(r & r)", "~(r | r)", "~(r => r)", "~~~r", "(r => r)", "(~r => r)", "(true => false)", "(p(X) => ~(a = b))")
}

func TestIsNegationNormal(t *testing.T) {
	for _, text := range []string{"true", "false", "r", "p(X)", "a = b", "~r", "~p(X)", "~(a = b)", "(r & s)", "(~r | ~(a = b))", "all X.p(X)", "some X.~p(X)", "all X.some Y.(true & (~q(X,Y) | false))", "all X.all X.p(X)", "(p(X) & all X.p(X))"} {
		for _, f := range negationNormalPlaces(formula(text)) {
			if yes, ok := impl.IsNegationNormal(f); !yes || !ok {
				t.Errorf("%s is in negation normal form: %v, %v", formulaText(f), yes, ok)
			}
		}
	}
	for _, f := range append(abnormal(), formulaList("~all X.p(X)", "~some X.p(X)", "~all X.~p(X)", "all X.(p(X) => r)", "some X.~~p(X)")...) {
		for _, g := range negationNormalPlaces(f) {
			if yes, ok := impl.IsNegationNormal(g); yes || !ok {
				t.Errorf("%s is in negation normal form: %v, %v", formulaText(g), yes, ok)
			}
		}
	}
}

func TestSeparateVariables(t *testing.T) {
	for text, want := range map[string]string{
		"true": "true", "r": "r", "p(X)": "p(X)", "~(X = Y)": "~(X = Y)", "all X.p(X)": "all V1.p(V1)", "some X.p(X)": "some V1.p(V1)", "all X.some Y.q(X,Y)": "all V1.some V2.q(V1,V2)", "~all X.p(X)": "~all V1.p(V1)", "(all X.p(X) => some Y.p(Y))": "(all V1.p(V1) => some V2.p(V2))", "all X.~~(X = f(X))": "all V1.~~(V1 = f(V1))", "all V1.p(V1)": "all V1.p(V1)",
		// The same variable twice, nested and side by side.
		"all X.all X.p(X)": "all V1.all V2.p(V2)", "all X.some X.all X.p(X)": "all V1.some V2.all V3.p(V3)", "(all X.p(X) & all X.p(X))": "(all V1.p(V1) & all V2.p(V2))", "all X.(p(X) & all X.p(X))": "all V1.(p(V1) & all V2.p(V2))", "all X.(all X.p(X) & p(X))": "all V1.(all V2.p(V2) & p(V1))", "all X.(all X.p(X) & (p(X) | some X.p(X)))": "all V1.(all V2.p(V2) & (p(V1) | some V3.p(V3)))",
		"all X.all Y.all X.q(X,Y)": "all V1.all V2.all V3.q(V3,V2)", "all X.some Y.(q(X,Y) => all X.some Y.q(Y,X))": "all V1.some V2.(q(V1,V2) => all V3.some V4.q(V4,V3))", "((all X.p(X) | all X.q(X,X)) & all X.r(X,X,X))": "((all V1.p(V1) | all V2.q(V2,V2)) & all V3.r(V3,V3,V3))", "all X.(q(X,X) & (all X.q(X,X) & q(X,X)))": "all V1.(q(V1,V1) & (all V2.q(V2,V2) & q(V1,V1)))",
		// A variable that is also free.
		"(p(X) & all X.p(X))": "(p(X) & all V1.p(V1))", "(all X.p(X) & p(X))": "(all V1.p(V1) & p(X))", "(some X.q(X,Y) | some Y.q(X,Y))": "(some V1.q(V1,Y) | some V2.q(X,V2))", "all X.(q(X,Y) & all Y.q(X,Y))": "all V1.(q(V1,Y) & all V2.q(V1,V2))",
		// No occurrence.
		"all X.r": "all V1.r", "some X.true": "some V1.true", "all X.p(Y)": "all V1.p(Y)", "all X.some Y.p(X)": "all V1.some V2.p(V1)", "all X.some Y.p(Y)": "all V1.some V2.p(V2)", "(all X.r & some X.r)": "(all V1.r & some V2.r)",
		// Free variables with the new names.
		"(q(V1,X) & all X.p(X))": "(q(V1,X) & all V2.p(V2))", "(p(V1) & all V1.p(V1))": "(p(V1) & all V2.p(V2))", "all X.q(X,V1)": "all V2.q(V2,V1)", "all X.all Y.r(X,Y,V1)": "all V2.all V3.r(V2,V3,V1)", "all X.all Y.r(X,Y,V2)": "all V1.all V3.r(V1,V3,V2)", "all X.(p(X) & all Y.(p(Y) & q(V1,V2)))": "all V3.(p(V3) & all V4.(p(V4) & q(V1,V2)))",
		"(all X.p(X) & (all Y.p(Y) & p(V1)))": "(all V2.p(V2) & (all V3.p(V3) & p(V1)))", "all X.all Y.all Z.r(V3,V1,V2)": "all V4.all V5.all V6.r(V3,V1,V2)", "all X.all Y.q(V2,V4)": "all V1.all V3.q(V2,V4)",
		// Names that begin like them.
		"all X.q(X,V)": "all V1.q(V1,V)", "all X.q(X,V0)": "all V1.q(V1,V0)", "all X.q(X,V01)": "all V1.q(V1,V01)", "all X.q(X,V1a)": "all V1.q(V1,V1a)", "all X.q(X,V10)": "all V1.q(V1,V10)", "all X.q(X,Va)": "all V1.q(V1,Va)", "all X.q(v1(X),X1)": "all V1.q(v1(V1),X1)", "all X.q(X,v1)": "all V1.q(V1,v1)",
		// Quantifiers that have the new names of others.
		"all V2.some V1.q(V1,V2)": "all V1.some V2.q(V2,V1)", "all X.all V1.q(X,V1)": "all V1.all V2.q(V1,V2)", "all V1.all V1.p(V1)": "all V1.all V2.p(V2)", "(all V2.p(V2) & all V1.p(V1))": "(all V1.p(V1) & all V2.p(V2))", "all V3.all V1.all V2.r(V1,V2,V3)": "all V1.all V2.all V3.r(V2,V3,V1)", "all V1.(p(V1) & all V2.q(V1,V2))": "all V1.(p(V1) & all V2.q(V1,V2))", "(some V1.p(V1) & p(V2))": "(some V1.p(V1) & p(V2))", "(some V2.p(V2) & p(V1))": "(some V2.p(V2) & p(V1))",
	} {
		if f, ok := impl.SeparateVariables(formula(text)); formulaText(f) != want || !ok {
			t.Errorf("%s becomes %s, %v", text, formulaText(f), ok)
		}
	}
}

// checkSeparated tests the separation of one valid formula against the definition and the
// guarantees.
func checkSeparated(t *testing.T, f impl.Formula) impl.Formula {
	t.Helper()
	r, ok := impl.SeparateVariables(f)
	if want := plainSeparate(f); !sameFormula(r, want) || !ok || !isProperFormula(r) || !isPlainSeparated(r) {
		t.Fatalf("%s becomes %s, %v instead of %s", formulaText(f), formulaText(r), ok, formulaText(want))
	}
	if yes, fine := impl.AlphaEqual(f, r); !yes || !fine {
		t.Fatalf("%s and %s differ in more than bound variables", formulaText(f), formulaText(r))
	}
	if again, fine := impl.SeparateVariables(r); !sameFormula(again, r) || !fine {
		t.Fatalf("%s becomes %s, %v", formulaText(r), formulaText(again), fine)
	}
	return r
}

func TestSeparationsFollowTheDefinition(t *testing.T) {
	list, source, counts := append(formulas(), smallFormulas(2)...), rand.New(rand.NewPCG(9, 4)), map[string]int{}
	twist := map[string]impl.Term{"X": node("V1"), "Y": node("V2"), "Z": node("V3")}
	for range 10000 {
		f := randomFormula(source, 1+source.IntN(40), "X", "Y", "Z", "V1", "V2", "V5", "a")
		if source.IntN(2) == 0 {
			f = renamedAll(f, twist)
		}
		list = append(list, f)
	}
	for _, f := range list {
		checkSeparated(t, f)
		switch bound := boundIn(f); {
		case len(bound) == 0:
			counts["no quantifier"]++
		case !isPlainSeparated(f):
			counts["not separated"]++
		default:
			counts["separated"]++
		}
	}
	if counts["no quantifier"] < 500 || counts["not separated"] < 5000 || counts["separated"] < 2000 {
		t.Error("the numbers of formulas are", counts)
	}
}

func TestSeparationsPreserveTruth(t *testing.T) {
	checkTruth(t, 5, impl.SeparateVariables)
}

func TestSeparationsOfManyVariables(t *testing.T) {
	for count := range 40 {
		f := chainOf(count+1, atomic(node("q", node("X"), node("V7"))), func(i int, f impl.Formula) impl.Formula { return quantified(quantOps[i%2], "X", f) })
		r := checkSeparated(t, f)
		last := 0
		if count > 0 {
			last, _ = strconv.Atoi(boundIn(r)[count-1][1:])
		}
		if want := count + min(1, count/7); last != want {
			t.Errorf("the last of %d variables is V%d", count, last)
		}
	}
	// As many free variables as there can be, V1 and so on, and a bound one.
	variables := []string{}
	for i := range 440 {
		variables = append(variables, "V"+strconv.Itoa(i+1))
	}
	f := quantified(impl.OpAll, "X", atomic(node("p", node("X"))))
	for i := range 18 {
		f = joined(impl.OpAnd, f, atomic(leaves(nodes(variables[i*22:i*22+22]...)...)))
	}
	if r := checkSeparated(t, f); boundIn(r)[0] != "V397" || len(plainFree(f)) != 396 {
		t.Errorf("behind %d variables follows %s", len(plainFree(f)), boundIn(r)[0])
	}
}

func TestSkolemize(t *testing.T) {
	for _, c := range []struct {
		f    string
		used []string
		want string
	}{
		{"true", nil, "true"}, {"r", nil, "r"}, {"~p(X)", nil, "~p(X)"}, {"all X.p(X)", nil, "all X.p(X)"}, {"(all X.p(X) | q(Y,Z))", nil, "(all X.p(X) | q(Y,Z))"}, {"some X.p(X)", nil, "p(sk1)"}, {"some X.~p(X)", nil, "~p(sk1)"}, {"some X.~(X = f(X))", nil, "~(sk1 = f(sk1))"},
		// Outside, inside and between universal quantifiers.
		{"all V1.some V2.q(V1,V2)", nil, "all V1.q(V1,sk1(V1))"}, {"some X.all Y.q(X,Y)", nil, "all Y.q(sk1,Y)"}, {"some X.some Y.q(X,Y)", nil, "q(sk1,sk2)"}, {"all X.some Y.all Z.r(X,Y,Z)", nil, "all X.all Z.r(X,sk1(X),Z)"}, {"some X.all Y.some Z.r(X,Y,Z)", nil, "all Y.r(sk1,Y,sk2(Y))"}, {"all X.all Y.some Z.r(X,Y,Z)", nil, "all X.all Y.r(X,Y,sk1(X,Y))"},
		{"all Y.all X.some Z.r(X,Y,Z)", nil, "all Y.all X.r(X,Y,sk1(Y,X))"}, {"all X.some Y.some Z.r(X,Y,Z)", nil, "all X.r(X,sk1(X),sk2(X))"}, {"all X.some Y.all Z.some W.q(Y,W)", nil, "all X.all Z.q(sk1(X),sk2(X,Z))"}, {"all Z.all Y.all X.some W.p(W)", nil, "all Z.all Y.all X.p(sk1(Z,Y,X))"},
		{"(all X.p(X) & some Y.p(Y))", nil, "(all X.p(X) & p(sk1))"}, {"(some Y.p(Y) & all X.p(X))", nil, "(p(sk1) & all X.p(X))"}, {"(some X.p(X) | some Y.p(Y))", nil, "(p(sk1) | p(sk2))"}, {"all X.(some Y.q(X,Y) & all Z.some W.q(Z,W))", nil, "all X.(q(X,sk1(X)) & all Z.q(Z,sk2(X,Z)))"}, {"all X.(all Z.p(Z) & some Y.q(X,Y))", nil, "all X.(all Z.p(Z) & q(X,sk1(X)))"},
		{"all X.((all Y.some Z.q(Y,Z) | all A.some B.q(A,B)) & some C.q(X,C))", nil, "all X.((all Y.q(Y,sk1(X,Y)) | all A.q(A,sk2(X,A))) & q(X,sk3(X)))"}, {"some A.(some B.q(A,B) & (some C.q(B1,C) | some D.p(D)))", nil, "(q(sk1(B1),sk2(B1)) & (q(B1,sk3(B1)) | p(sk4(B1))))"},
		{"some X.(p(X) & (q(X,X) | ~(X = a)))", nil, "(p(sk1) & (q(sk1,sk1) | ~(sk1 = a)))"}, {"all X.some Y.(p(Y) & all Z.r(Y,f(Y),Z))", nil, "all X.(p(sk1(X)) & all Z.r(sk1(X),f(sk1(X)),Z))"},
		// Free variables come first, in ascending order, even those of other parts.
		{"some Y.q(X,Y)", nil, "q(X,sk1(X))"}, {"some Y.p(Y)", nil, "p(sk1)"}, {"(some V1.p(V1) & p(X))", nil, "(p(sk1(X)) & p(X))"}, {"(p(X) & some V1.p(V1))", nil, "(p(X) & p(sk1(X)))"}, {"(q(Z,Y) & some V1.p(V1))", nil, "(q(Z,Y) & p(sk1(Y,Z)))"}, {"all A.some B.r(A,B,Z)", nil, "all A.r(A,sk1(Z,A),Z)"}, {"all Z.some B.r(A,B,Z)", nil, "all Z.r(A,sk1(A,Z),Z)"},
		{"(all C.some D.q(C,D) | (p(Z) | p(B)))", nil, "(all C.q(C,sk1(B,Z,C)) | (p(Z) | p(B)))"}, {"(q(X2,X10) & some X1.p(X1))", nil, "(q(X2,X10) & p(sk1(X10,X2)))"}, {"(all X.some Y.q(X,Y) & p(Z))", nil, "(all X.q(X,sk1(Z,X)) & p(Z))"},
		// No occurrence.
		{"some X.r", nil, "r"}, {"all X.some Y.p(X)", nil, "all X.p(X)"}, {"some X.some Y.p(Y)", nil, "p(sk2)"}, {"(some X.r & some Y.p(Y))", nil, "(r & p(sk2))"}, {"some X.true", nil, "true"}, {"some X.p(Y)", nil, "p(Y)"},
		// Names in the formula: a constant, a function, a predicate.
		{"some X.q(X,sk1)", nil, "q(sk2,sk1)"}, {"some X.q(X,sk1(a))", nil, "q(sk2,sk1(a))"}, {"some X.sk1(X)", nil, "sk1(sk2)"}, {"(some X.p(X) & sk1)", nil, "(p(sk2) & sk1)"}, {"(some X.p(X) & p(f(f(sk1))))", nil, "(p(sk2) & p(f(f(sk1))))"}, {"some X.some Y.r(X,Y,sk2)", nil, "r(sk1,sk3,sk2)"}, {"some X.some Y.r(sk1,sk3(X),Y)", nil, "r(sk1,sk3(sk2),sk4)"},
		{"(some X.p(X) | (some Y.p(Y) | sk2(sk3,sk1)))", nil, "(p(sk4) | (p(sk5) | sk2(sk3,sk1)))"}, {"(some X.p(X) & ~(a = sk1))", nil, "(p(sk2) & ~(a = sk1))"},
		{"some X.r(X,sk,sk0)", nil, "r(sk1,sk,sk0)"}, {"some X.r(X,sk01,sk10)", nil, "r(sk1,sk01,sk10)"}, {"some X.r(X,sk1a,sk_1)", nil, "r(sk1,sk1a,sk_1)"}, {"some Sk1.q(Sk1,X)", nil, "q(sk1(X),X)"},
		// Names in the list.
		{"(some V1.p(V1) & p(X))", []string{"sk1"}, "(p(sk2(X)) & p(X))"}, {"some X.p(X)", []string{"sk2"}, "p(sk1)"}, {"some X.some Y.q(X,Y)", []string{"sk2"}, "q(sk1,sk3)"}, {"some X.some Y.q(X,Y)", []string{"sk3", "sk1", "sk2", "sk1"}, "q(sk4,sk5)"}, {"some X.q(X,sk2)", []string{"sk1"}, "q(sk3,sk2)"}, {"some X.q(X,sk1)", []string{"sk1"}, "q(sk2,sk1)"}, {"all X.p(X)", []string{"sk1"}, "all X.p(X)"},
		{"some X.p(X)", []string{"", " ", "sk", "sk0", "sk01", "sk1 ", " sk1", "SK1", "Sk1", "sk1(X)", "\x00", "\xff", "=", "sk999999999", "sk-1", "sk+1", "X", strings.Repeat("sk1", 2000)}, "p(sk1)"}, {"some X.p(X)", []string{"", "sk1", "~"}, "p(sk2)"}, {"some X.p(X)", []string{"a", "p", "d1"}, "p(sk1)"},
	} {
		if f, ok := impl.Skolemize(formula(c.f), c.used); formulaText(f) != c.want || !ok {
			t.Errorf("%s becomes %s, %v with the names %q used", c.f, formulaText(f), ok, c.used)
		}
	}
}

// checkSkolemized tests one result against the definition.
func checkSkolemized(t *testing.T, f impl.Formula, used ...string) (impl.Formula, bool) {
	t.Helper()
	want, fits := plainSkolemize(f, used)
	r, ok := impl.Skolemize(f, used)
	if ok != fits || !sameFormula(r, want) {
		t.Fatalf("%s becomes %s, %v with the names %q used", formulaText(f), formulaText(r), ok, used)
	}
	if ok && (!isProperFormula(r) || plainCount(r, impl.OpExists) > 0) {
		t.Fatalf("%s becomes %s", formulaText(f), formulaText(r))
	}
	return r, ok
}

func TestNumbersOfSkolemArguments(t *testing.T) {
	for free := range 7 {
		for bound := range 7 {
			for unused := range 3 {
				args := nodes("A", "B", "C", "D", "E", "F")[:free]
				for i := range bound {
					args = append(args, node("U"+strconv.Itoa(i)))
				}
				f := quantified(impl.OpExists, "X", atomic(leaves(append(slices.Clone(args[:free]), node("X"))...)))
				if unused > 0 {
					// The term would have too many arguments even if it does not occur.
					f = quantified(impl.OpExists, "X", atomic(leaves(append(slices.Clone(args[:free]), node("a"))...)))
				}
				for i := bound - 1; i >= 0; i-- {
					f = quantified(impl.OpAll, "U"+strconv.Itoa(i), f)
				}
				if unused > 1 {
					f = joined(impl.OpOr, atomic(node("r")), f)
				}
				r, ok := checkSkolemized(t, f)
				if ok != (free+bound <= 4) {
					t.Errorf("%s becomes %s, %v", formulaText(f), formulaText(r), ok)
				}
				if text := termText(node("sk1", args...)); ok && unused == 0 && !strings.Contains(formulaText(r), text) {
					t.Errorf("%s becomes %s without %s", formulaText(f), formulaText(r), text)
				}
			}
		}
	}
	for text, want := range map[string]string{
		"all A.all B.all C.all D.(r & some E.p(E))": "all A.all B.all C.all D.(r & p(sk1(A,B,C,D)))", "all A.all B.all C.all D.all E.(some F.p(F) & r)": "", "all A.all B.all C.all D.some E.all F.p(E)": "all A.all B.all C.all D.all F.p(sk1(A,B,C,D))", "all A.all B.all C.all D.some E.all F.some H.p(H)": "", "all A.all B.all C.all D.all E.p(E)": "all A.all B.all C.all D.all E.p(E)",
		"(q(A,B) & (q(C,D) & some X.p(X)))": "(q(A,B) & (q(C,D) & p(sk1(A,B,C,D))))", "(q(A,B) & (r(C,D,E) & some X.p(X)))": "", "(q(A,B) & (r(C,D,E) & some X.r))": "", "(q(A,B) & (r(C,D,E) & all X.p(X)))": "(q(A,B) & (r(C,D,E) & all X.p(X)))",
	} {
		if r, ok := checkSkolemized(t, formula(text)); ok != (want != "") || ok && formulaText(r) != want {
			t.Errorf("%s becomes %s, %v", text, formulaText(r), ok)
		}
	}
}

func TestSizesOfSkolemizedAtoms(t *testing.T) {
	counts := map[bool]int{}
	for args := range 5 {
		for times := 1; times <= 6; times++ {
			for size := 1; size <= 22; size++ {
				atom := leaves(append(nodes(slices.Repeat([]string{"X"}, times)...), bush(size))...)
				for _, e := range []impl.Term{atom, node("=", atom, node("X"))} {
					f := quantified(impl.OpExists, "X", atomic(e))
					for i := range args {
						f = quantified(impl.OpAll, "U"+strconv.Itoa(i), f)
					}
					if !isProperFormula(f) {
						continue
					}
					count, _ := sizeAndDepth(e)
					grown := count + args*occurrences("X", e)
					if r, ok := checkSkolemized(t, f); ok != (grown <= 30) {
						t.Errorf("%s, of which an atom gets the size %d, becomes %s, %v", formulaText(f), grown, formulaText(r), ok)
					}
					counts[grown <= 30]++
				}
			}
		}
	}
	for depth := 2; depth <= 8; depth++ {
		atom := chain(depth, node("X"))
		closed, other := quantified(impl.OpExists, "X", atomic(atom)), joined(impl.OpAnd, quantified(impl.OpExists, "X", atomic(atom)), atomic(node("p", node("Y"))))
		if r, ok := checkSkolemized(t, closed); !ok {
			t.Errorf("%s becomes %s, %v", formulaText(closed), formulaText(r), ok)
		}
		for _, f := range []impl.Formula{quantified(impl.OpAll, "Y", closed), other, joined(impl.OpOr, closed, atomic(node("p", node("Y"))))} {
			if r, ok := checkSkolemized(t, f); ok != (depth <= 7) {
				t.Errorf("%s becomes %s, %v", formulaText(f), formulaText(r), ok)
			}
		}
	}
	if counts[true] < 100 || counts[false] < 100 {
		t.Error("the numbers of results are", counts)
	}
}

func TestManySkolemNames(t *testing.T) {
	used := []string{}
	for i := 1; i <= 10001; i++ {
		f := formula("all X.some Y.q(X,Y)")
		if i%1000 < 3 || i > 9990 || i < 12 {
			r, ok := impl.Skolemize(f, used)
			// sk10000 is too long for a symbol name.
			if want := "all X.q(X,sk" + strconv.Itoa(i) + "(X))"; ok != (i < 10000) || ok && formulaText(r) != want || !ok && !isZeroFormula(r) {
				t.Errorf("with %d names used it becomes %s, %v", i-1, formulaText(r), ok)
			}
		}
		used = append(used, "sk"+strconv.Itoa(i))
	}
	slices.Reverse(used)
	if r, ok := impl.Skolemize(formula("some Y.p(Y)"), used[2:]); ok || !isZeroFormula(r) {
		t.Errorf("with 9999 names used it becomes %s, %v", formulaText(r), ok)
	}
	if r, ok := impl.Skolemize(formula("all Y.p(Y)"), used); !ok || formulaText(r) != "all Y.p(Y)" {
		t.Errorf("without an existential quantifier it becomes %s, %v", formulaText(r), ok)
	}
	// As many quantifiers as there can be.
	f := chainOf(40, atomic(node("h", node("V1"), node("V20"), node("V39"))), func(i int, f impl.Formula) impl.Formula {
		return quantified(impl.OpExists, "V"+strconv.Itoa(39-i), f)
	})
	if r, ok := checkSkolemized(t, f, "sk2", "sk30"); !ok || formulaText(r) != "h(sk1,sk21,sk41)" {
		t.Errorf("%s becomes %s, %v", formulaText(f), formulaText(r), ok)
	}
}

// skolemNames lists all symbol names sk1, sk2, ... without those of the given numbers.
func skolemNames(without ...int) []string {
	list := []string{}
	for i := 1; i <= 9999; i++ {
		if !slices.Contains(without, i) {
			list = append(list, "sk"+strconv.Itoa(i))
		}
	}
	return list
}

func TestSkolemizeWithoutNames(t *testing.T) {
	none, first, last, two := skolemNames(), skolemNames(1), skolemNames(9999), skolemNames(7, 5000)
	for _, c := range []struct {
		f    string
		used []string
		want string
	}{
		// A name that is not valid is in no result where the variable does not occur.
		{"some X.r", none, "r"}, {"some X.~r", none, "~r"}, {"some X.true", none, "true"}, {"some X.false", none, "false"}, {"some X.some Y.r", none, "r"}, {"some X.p(Y)", none, "p(Y)"}, {"all X.some Y.p(X)", none, "all X.p(X)"}, {"some X.all Y.p(Y)", none, "all Y.p(Y)"}, {"(some X.r & (p(a) | some Y.~s))", none, "(r & (p(a) | ~s))"}, {"some X.a = b", none, "a = b"},
		{"some X.p(X)", none, ""}, {"some X.~p(X)", none, ""}, {"some X.X = a", none, ""}, {"some X.p(f(f(X)))", none, ""}, {"all X.some Y.q(X,Y)", none, ""}, {"some X.(r | p(X))", none, ""}, {"some X.all Y.q(X,Y)", none, ""}, {"some X.some Y.p(X)", none, ""}, {"some X.some Y.p(Y)", none, ""}, {"(some X.r & some Y.p(Y))", none, ""}, {"(some Y.p(Y) | some X.r)", none, ""},
		// Each quantifier takes a name, even if its variable does not occur.
		{"some X.p(X)", first, "p(sk1)"}, {"some X.some Y.p(X)", first, "p(sk1)"}, {"some X.some Y.p(Y)", first, ""}, {"some X.some Y.q(X,Y)", first, ""}, {"(some X.r & some Y.p(Y))", first, ""}, {"(some Y.p(Y) | some X.r)", first, "(p(sk1) | r)"},
		{"some X.p(X)", last, "p(sk9999)"}, {"some X.some Y.p(X)", last, "p(sk9999)"}, {"some X.some Y.p(Y)", last, ""}, {"some X.some Y.some Z.r", last, "r"}, {"all V.(some X.q(V,X) & some Y.p(V))", last, "all V.(q(V,sk9999(V)) & p(V))"},
		{"some X.some Y.q(X,Y)", two, "q(sk7,sk5000)"}, {"some X.some Y.some Z.q(X,Y)", two, "q(sk7,sk5000)"}, {"some X.some Y.some Z.q(X,Z)", two, ""}, {"some X.some Y.p(a)", two, "p(a)"},
		// The last name is in the formula.
		{"some X.p(sk1)", first, "p(sk1)"}, {"some X.q(X,sk1)", first, ""}, {"(sk9999 & some X.r)", last, "(sk9999 & r)"}, {"(sk9999 & some X.p(X))", last, ""}, {"some X.some Y.r(X,sk7,a)", two, "r(sk5000,sk7,a)"}, {"some X.some Y.r(Y,sk7,a)", two, ""},
		// Names that are too long are not used either.
		{"some X.r", append(skolemNames(), "sk10000"), "r"}, {"some X.p(X)", append(skolemNames(), "sk10000", "sk10001"), ""},
		// The limit of the arguments holds even where the variable does not occur.
		{"all A.all B.all C.all D.some E.p(A)", none, "all A.all B.all C.all D.p(A)"}, {"all A.all B.all C.all D.all E.some F.p(A)", none, ""}, {"(q(A,B) & (q(C,D) & some X.r))", none, "(q(A,B) & (q(C,D) & r))"}, {"(q(A,B) & (r(C,D,E) & some X.r))", none, ""},
	} {
		if r, ok := checkSkolemized(t, formula(c.f), c.used...); ok != (c.want != "") || ok && formulaText(r) != c.want {
			t.Errorf("%s becomes %s, %v instead of %s with %d names used", c.f, formulaText(r), ok, c.want, len(c.used))
		}
	}
}

func TestSkolemizationsWithFewNamesFollowTheDefinition(t *testing.T) {
	counts := map[string]int{}
	lists := [][]string{skolemNames(), skolemNames(2), skolemNames(9998, 9999)}
	for i, f := range normalFormulas() {
		if f = plainSeparate(f); i%3 != 0 || plainCount(f, impl.OpExists) == 0 {
			continue
		}
		_, fits := plainSkolemize(f, nil)
		_, ok := checkSkolemized(t, f, lists[i/3%len(lists)]...)
		switch {
		case ok:
			counts["removed"]++
		case fits:
			counts["no names"]++
		}
	}
	if counts["removed"] < 100 || counts["no names"] < 100 {
		t.Error("the numbers of results are", counts)
	}
}

// unseparated lists formulas in negation normal form that are not separated.
func unseparated() []impl.Formula {
	return formulaList("all X.all X.p(X)", "some X.some X.r", "all X.some X.p(X)", "(all X.p(X) & all X.p(X))", "(some X.p(X) | all X.r)", "(p(X) & all X.p(X))", "(some X.p(X) | p(X))", "all X.(p(Y) & all Y.p(X))", "(all X.r & q(Y,X))", "all X.all Y.all X.r", "(all X.all Y.r & (r | some Y.r))", "all X.(p(X) | all Z.(p(Z) & all X.p(X)))")
}

func TestFormulasThatAreNotSkolemized(t *testing.T) {
	list := unseparated()
	for _, f := range append(abnormal(), formulaList("~all X.p(X)", "~some X.p(X)", "all X.(p(X) => r)")...) {
		list = append(list, negationNormalPlaces(f)...)
	}
	for _, f := range list {
		for _, used := range [][]string{nil, {"sk1"}, {""}} {
			if r, ok := impl.Skolemize(f, used); !isZeroFormula(r) || ok {
				t.Errorf("%s becomes %s, %v", formulaText(f), formulaText(r), ok)
			}
		}
	}
}

func TestSkolemizationsFollowTheDefinition(t *testing.T) {
	counts, source := map[string]int{}, rand.New(rand.NewPCG(9, 6))
	lists := [][]string{nil, {"sk1"}, {"sk2", "sk4"}, {"", "sk3", "sk1"}}
	check := func(f impl.Formula) {
		r, ok := checkSkolemized(t, f, lists[source.IntN(4)]...)
		switch {
		case !ok:
			counts["failed"]++
		case plainCount(f, impl.OpExists) > 1:
			counts["several"]++
		case !sameFormula(r, f):
			counts["one"]++
		}
	}
	for _, f := range normalFormulas() {
		check(f)
		check(plainSeparate(f))
		names := map[string]impl.Term{"X": node("X"), "Y": node("sk1"), "a": node("sk2")}
		check(renamedAll(plainSeparate(f), names))
	}
	if counts["failed"] < 300 || counts["several"] < 1000 || counts["one"] < 1000 {
		t.Error("the numbers of results are", counts)
	}
}

func TestSkolemizedFormulasImplyTheFormula(t *testing.T) {
	counts := map[string]int{}
	sampled(7, 8000, func(f impl.Formula, m model) {
		f = plainSeparate(plainNormalForm(f))
		r, ok := impl.Skolemize(f, nil)
		if !ok || sameFormula(f, r) {
			return
		}
		for _, assignment := range m.assignments(plainFree(f)) {
			isTrue := m.holds(f, assignment)
			switch {
			case m.holds(r, assignment) && !isTrue:
				t.Fatalf("%s is true, but %s is not", formulaText(r), formulaText(f))
			case m.holds(r, assignment):
				counts["both"]++
			case isTrue:
				counts["one"]++
			default:
				counts["none"]++
			}
		}
	})
	if counts["both"] < 1000 || counts["one"] < 300 || counts["none"] < 1000 {
		t.Error("the numbers of results are", counts)
	}
}

func TestClauseForm(t *testing.T) {
	for text, want := range map[string]string{
		"true": "", "false": "$false", "r": "r", "~r": "~r", "p(X)": "p(X0)", "~q(Y,X)": "~q(X0,X1)", "a = b": "a = b", "~(X = Y)": "X0 != X1", "all X.p(X)": "p(X0)", "all X.all Y.q(Y,X)": "q(X0,X1)", "all X.r": "r", "all X.true": "", "all X.false": "$false",
		"(p & q)": "p; q", "(q & p)": "q; p", "(p | q)": "p | q", "(q | p)": "p | q", "(p & (q & r))": "p; q; r", "((p & q) & r)": "p; q; r", "((p & q) | r)": "p | r; q | r", "(r | (p & q))": "p | r; q | r", "((q & p) | r)": "q | r; p | r",
		// The clauses of the second part vary fastest.
		"((p & q) | (r & s))": "p | r; p | s; q | r; q | s", "((q & p) | (s & r))": "q | s; q | r; p | s; p | r", "((r & s) | (p & q))": "p | r; q | r; p | s; q | s", "((a & b) | ((c & d) | (e & f)))": "a | c | e; a | c | f; a | d | e; a | d | f; b | c | e; b | c | f; b | d | e; b | d | f", "(((a & b) | (c & d)) | (e & f))": "a | c | e; a | c | f; a | d | e; a | d | f; b | c | e; b | c | f; b | d | e; b | d | f",
		"((p(X) & r) | q(X,X))": "p(X0) | q(X0,X0); q(X0,X0) | r", "(all X.p(X) | all Y.(q(Y,Y) & r))": "p(X0) | q(X1,X1); p(X0) | r", "all X.(p(X) & (~q(X,Y) | all Z.r(X,Y,Z)))": "p(X0); ~q(X0,X1) | r(X0,X1,X2)",
		// Constants in conjunctions and disjunctions.
		"(true & r)": "r", "(r & true)": "r", "(true & true)": "", "(false & r)": "$false; r", "(r & false)": "r; $false", "(false & false)": "$false", "(true & false)": "$false", "(true | r)": "", "(r | true)": "", "(true | false)": "", "(false | true)": "", "(false | r)": "r", "(r | false)": "r", "(false | false)": "$false", "(true | true)": "",
		"((true & r) | s)": "r | s", "((false & r) | s)": "s; r | s", "((r | true) & s)": "s", "((r | false) & s)": "r; s", "((r & false) | (s & false))": "r | s; r; s; $false", "((p & q) | true)": "", "((p & q) | false)": "p; q", "((p & q) | (true & r))": "p | r; q | r", "((p & q) | (r & false))": "p | r; p; q | r; q",
		// Tautologies.
		"a = a": "", "X = X": "", "~(a = a)": "a != a", "~(X = X)": "X0 != X0", "(p | ~p)": "", "(~p | p)": "", "(p & ~p)": "p; ~p", "((p & q) | ~p)": "~p | q", "(~p | (p & q))": "~p | q", "((p & q) | (~p & ~q))": "p | ~q; ~p | q", "(r | X = X)": "", "(r & X = X)": "r", "((r & X = X) | q)": "q | r", "(p(X) | ~p(X))": "", "(p(X) | ~p(Y))": "p(X0) | ~p(X1)", "(p(a) | ~p(a))": "", "((p | q) | ~p)": "", "(r | ~(X = X))": "X0 != X0 | r", "f(X) = f(X)": "", "f(X) = f(Y)": "f(X0) = f(X1)",
		// Clauses that occur earlier.
		"(p & p)": "p", "(p | p)": "p", "((p & q) & (q & p))": "p; q", "((p & q) | (p & q))": "p; p | q; q", "((p | q) & (q | p))": "p | q", "((p & r) | (q & r))": "p | q; p | r; q | r; r", "((q & p) & (q & (s & p)))": "q; p; s", "(r & ((p & q) & (q & r)))": "r; p; q", "(p & (p | q))": "p; p | q",
		// Clauses that become equal only when they are normalized.
		"(p(X) & p(Y))": "p(X0)", "(q(X,Y) & q(Y,X))": "q(X0,X1)", "(q(X,Y) & q(X,X))": "q(X0,X1); q(X0,X0)", "((p(X) & p(Y)) | r)": "p(X0) | r", "((p(X) & p(Y)) | q(X,Y))": "p(X0) | q(X0,X1); p(X0) | q(X1,X0)", "(all X.p(X) & all Y.p(Y))": "p(X0)", "((p(X) | p(Y)) & (p(X) | p(Z)))": "p(X0) | p(X1)", "(X = Y & (a = b & Z = X))": "X0 = X1; a = b",
		// Those are not equal when the lists are made.
		"((p(X) & p(Y)) | (p(X) & p(Y)))": "p(X0); p(X0) | p(X1)", "(p(X) | p(Y))": "p(X0) | p(X1)", "((p(X) | ~p(Y)) & (~p(X) | p(Y)))": "p(X0) | ~p(X1); ~p(X0) | p(X1)",
	} {
		if list, ok := impl.ClauseForm(formula(text)); clauseTexts(list) != want || !ok {
			t.Errorf("%s gives the clauses %s, %v", text, clauseTexts(list), ok)
		}
	}
}

// checkClauseForm tests one list of clauses against the definition.
func checkClauseForm(t *testing.T, f impl.Formula) ([]impl.Clause, bool) {
	t.Helper()
	want, fits := plainClauseForm(f)
	list, ok := impl.ClauseForm(f)
	if ok != fits || ok && !slices.EqualFunc(list, want, sameClause) || !ok && len(list) > 0 {
		t.Fatalf("%s gives the clauses %s, %v instead of %s, %v", formulaText(f), clauseTexts(list), ok, clauseTexts(want), fits)
	}
	for _, c := range list {
		if !isProperClause(c) || isPlainTautology(c) {
			t.Fatalf("%s gives the clause %s", formulaText(f), clauseText(c))
		}
	}
	return list, ok
}

func TestSizesOfUnions(t *testing.T) {
	counts := map[bool]int{}
	for left := 1; left <= 9; left++ {
		for right := 1; left+right <= 13; right++ {
			for common := range min(left, right) + 1 {
				for opposite := range min(left, right) - common + 1 {
					first := propositions("p", left)
					second := slices.Concat(first[:common], negatedAll(first[common:common+opposite]), propositions("q", right-common-opposite))
					size := left + right - common
					fits := left <= 8 && right <= 8 && size <= 8
					want := []impl.Clause{}
					if fits && opposite == 0 {
						c := impl.Clause{}
						for _, f := range slices.Concat(first, second[common:]) {
							c.Literals = append(c.Literals, yes(f.Atom))
						}
						want = append(want, c)
					}
					f := joined(impl.OpOr, joinedAll(impl.OpOr, first...), joinedAll(impl.OpOr, second...))
					list, ok := checkClauseForm(t, f)
					if ok != fits || !slices.EqualFunc(list, want, sameClause) {
						t.Errorf("%s gives the clauses %s, %v", formulaText(f), clauseTexts(list), ok)
					}
					counts[ok]++
				}
			}
		}
	}
	if counts[true] < 50 || counts[false] < 50 {
		t.Error("the numbers of results are", counts)
	}
	// A union is too long even if only one of several is, or if what follows removes it.
	p, q := joinedAll(impl.OpOr, propositions("p", 5)...), joinedAll(impl.OpOr, propositions("q", 4)...)
	three := joinedAll(impl.OpOr, propositions("q", 3)...)
	r := atomic(node("r"))
	for _, c := range []struct {
		f    impl.Formula
		fits bool
	}{
		{joined(impl.OpOr, joined(impl.OpAnd, r, p), three), true}, {joined(impl.OpOr, joined(impl.OpAnd, r, p), q), false}, {joined(impl.OpOr, joined(impl.OpAnd, p, r), q), false}, {joined(impl.OpOr, q, joined(impl.OpAnd, r, p)), false},
		{joined(impl.OpAnd, r, joined(impl.OpOr, p, q)), false}, {joined(impl.OpOr, constant(impl.OpTrue), joined(impl.OpOr, p, q)), false}, {joined(impl.OpOr, joined(impl.OpOr, p, q), constant(impl.OpTrue)), false}, {joined(impl.OpOr, p, joined(impl.OpOr, q, constant(impl.OpTrue))), true},
		// A tautology is too long as a union, but a shorter one is removed before it becomes longer.
		{joined(impl.OpOr, joined(impl.OpOr, p, three), negated(p.Parts[0])), false}, {joined(impl.OpOr, joined(impl.OpOr, p, negated(p.Parts[0])), q), true}, {joined(impl.OpOr, joined(impl.OpOr, p, three), atomic(node("=", node("a"), node("a")))), true}, {joined(impl.OpOr, p, joined(impl.OpOr, q, negated(q.Parts[0]))), true},
	} {
		if list, ok := checkClauseForm(t, c.f); ok != c.fits {
			t.Errorf("%s gives the clauses %s, %v", formulaText(c.f), clauseTexts(list), ok)
		}
	}
}

// product is a disjunction of two conjunctions of the given numbers of atoms.
func product(left, right int) impl.Formula {
	return joined(impl.OpOr, joinedAll(impl.OpAnd, propositions("p", left)...), joinedAll(impl.OpAnd, propositions("q", right)...))
}

func TestLengthsOfClauseLists(t *testing.T) {
	counts := map[bool]int{}
	for left := 1; left <= 12; left++ {
		for right := 1; right <= 12 && left+right <= 16; right++ {
			for more := range 4 {
				f := product(left, right)
				if more > 0 {
					f = joined(impl.OpAnd, f, joinedAll(impl.OpAnd, propositions("r", more)...))
				}
				list, ok := checkClauseForm(t, f)
				count := left*right + more
				if fits := count <= 30; ok != fits || ok && len(list) != count {
					t.Errorf("%s gives %d clauses instead of %d, %v", formulaText(f), len(list), count, ok)
				}
				counts[ok]++
			}
		}
	}
	if counts[true] < 50 || counts[false] < 50 {
		t.Error("the numbers of results are", counts)
	}
}

func TestLengthsOfClauseListsWithoutRepetition(t *testing.T) {
	p, r := func(count int) []impl.Formula { return propositions("p", count) }, atomic(node("r"))
	all := func(list []impl.Formula) impl.Formula { return joinedAll(impl.OpAnd, list...) }
	variables := []impl.Formula{}
	for i := range 6 {
		variables = append(variables, atomic(node("q", node("X"+strconv.Itoa(i)))))
	}
	for _, c := range []struct {
		f     impl.Formula
		count int
	}{
		// 36 unions, of which 6 are tautologies; 49, of which 7 are.
		{joined(impl.OpOr, all(p(6)), all(negatedAll(p(6)))), 30}, {joined(impl.OpAnd, joined(impl.OpOr, all(p(6)), all(negatedAll(p(6)))), r), 31}, {joined(impl.OpAnd, joined(impl.OpOr, all(p(6)), all(negatedAll(p(6)))), p(1)[0]), 31}, {joined(impl.OpAnd, joined(impl.OpOr, all(p(6)), all(negatedAll(p(6)))), atomic(node("=", r.Atom, r.Atom))), 30},
		{joined(impl.OpAnd, joined(impl.OpOr, all(p(6)), all(negatedAll(p(6)))), joined(impl.OpOr, negated(p(2)[1]), p(1)[0])), 30}, {joined(impl.OpOr, all(p(7)), all(negatedAll(p(7)))), 42}, {joined(impl.OpOr, all(p(6)), all(negatedAll(p(5)))), 25},
		// 49 unions, of which 21 are repeated; 64, of which 28 are.
		{joined(impl.OpOr, all(p(7)), all(p(7))), 28}, {joined(impl.OpOr, all(p(8)), all(p(8))), 36}, {joined(impl.OpAnd, joined(impl.OpOr, all(p(7)), all(p(7))), all(append(propositions("q", 2), p(3)...))), 30}, {joined(impl.OpAnd, joined(impl.OpOr, all(p(7)), all(p(7))), all(append(propositions("q", 3), p(3)...))), 31},
		// The list of a part is too long, whatever follows.
		{joined(impl.OpAnd, product(6, 5), product(2, 5)), 30}, {joined(impl.OpOr, constant(impl.OpTrue), product(6, 5)), 0}, {joined(impl.OpOr, constant(impl.OpTrue), joined(impl.OpAnd, product(6, 5), r)), 31}, {joined(impl.OpOr, joined(impl.OpAnd, product(6, 5), r), constant(impl.OpTrue)), 31}, {joined(impl.OpOr, joined(impl.OpAnd, product(6, 5), r), r), 31},
		{joined(impl.OpAnd, joined(impl.OpAnd, product(6, 5), r), constant(impl.OpFalse)), 31}, {joined(impl.OpAnd, product(6, 5), constant(impl.OpFalse)), 31}, {joined(impl.OpAnd, product(6, 5), constant(impl.OpTrue)), 30}, {joined(impl.OpOr, product(6, 5), constant(impl.OpFalse)), 30}, {quantified(impl.OpAll, "X", product(6, 5)), 30},
	} {
		want := c.count
		list, ok := checkClauseForm(t, c.f)
		if fits := want <= 30; ok != fits || ok && len(list) != want {
			t.Errorf("%s gives %d clauses instead of %d, %v", formulaText(c.f), len(list), want, ok)
		}
	}
	// 30 or more clauses of which only a few remain when they are normalized.
	f := joined(impl.OpOr, all(p(5)), all(variables))
	if list, ok := checkClauseForm(t, f); len(list) != 5 || !ok {
		t.Errorf("%s gives the clauses %s, %v", formulaText(f), clauseTexts(list), ok)
	}
	for _, more := range []impl.Formula{r, atomic(node("q", node("Y")))} {
		if list, ok := checkClauseForm(t, joined(impl.OpAnd, f, more)); len(list) > 0 || ok {
			t.Errorf("31 clauses before they are normalized: %s, %v", clauseTexts(list), ok)
		}
	}
}

func TestFormulasWithoutClauseForm(t *testing.T) {
	list := append(unseparated(), formulaList("some X.p(X)", "some X.r", "all X.some Y.q(X,Y)", "(r & some X.p(X))", "(true | some X.p(X))", "(false & all X.(p(X) | some Y.p(Y)))")...)
	for _, f := range append(abnormal(), formulaList("~all X.p(X)", "~some X.p(X)", "all X.(p(X) => r)", "all X.~~p(X)")...) {
		list = append(list, negationNormalPlaces(f)...)
	}
	for _, f := range list {
		if clauses, ok := checkClauseForm(t, f); len(clauses) > 0 || ok {
			t.Errorf("%s gives the clauses %s, %v", formulaText(f), clauseTexts(clauses), ok)
		}
	}
}

// universalFormulas lists formulas that have a clause form unless it is too long.
func universalFormulas() []impl.Formula {
	list := []impl.Formula{}
	for _, f := range normalFormulas() {
		if r, ok := plainSkolemize(plainSeparate(f), nil); ok {
			list = append(list, r)
		}
	}
	return list
}

func TestClauseFormsFollowTheDefinition(t *testing.T) {
	list, source, counts := universalFormulas(), rand.New(rand.NewPCG(9, 8)), map[string]int{}
	for range 4000 {
		list = append(list, randomOpen(source, 20+source.IntN(20), "X", "Y", "Z", "a"))
	}
	// Some clauses never become normal.
	for _, c := range renamedClauses() {
		f, _ := plainFormulaOf(clause(c.text))
		list = append(list, f)
	}
	for _, f := range append(list, normalFormulas()...) {
		clauses, ok := checkClauseForm(t, f)
		if !ok {
			counts["failed"]++
			continue
		}
		counts[strconv.Itoa(min(3, len(clauses)))]++
	}
	if counts["failed"] < 1000 || counts["0"] < 300 || counts["1"] < 1000 || counts["2"] < 300 || counts["3"] < 1000 {
		t.Error("the numbers of results are", counts)
	}
}

func TestClauseFormsAreEquivalent(t *testing.T) {
	list, source, counts := []impl.Formula{}, rand.New(rand.NewPCG(9, 9)), map[bool]int{}
	for range 4000 {
		list = append(list, randomOpen(source, 1+source.IntN(14), "X", "Y", "a"))
	}
	sampled(10, 5000, func(f impl.Formula, m model) {
		if r, ok := plainSkolemize(plainSeparate(plainNormalForm(f)), nil); ok && plainCount(r, impl.OpAll) < 4 {
			list = append(list, r)
		}
	})
	all := models()
	for _, f := range list {
		clauses, ok := impl.ClauseForm(f)
		if !ok {
			continue
		}
		for range 3 {
			m, isTrue := all[source.IntN(len(all))], true
			for _, assignment := range m.assignments(plainFree(f)) {
				isTrue = isTrue && m.holds(f, assignment)
			}
			isFalse := func(c impl.Clause) bool { return !m.isTrue(c) }
			if slices.ContainsFunc(clauses, isFalse) == isTrue {
				t.Fatalf("%s is %v in the model %v, but its clauses %s are not", formulaText(f), isTrue, m, clauseTexts(clauses))
			}
			counts[isTrue]++
		}
	}
	if counts[true] < 3000 || counts[false] < 3000 {
		t.Error("the numbers of results are", counts)
	}
}

func TestDefineConjunctions(t *testing.T) {
	for _, c := range []struct{ f, want, definitions string }{
		{"true", "true", ""}, {"r", "r", ""}, {"~(X = a)", "~(X = a)", ""}, {"(p & q)", "(p & q)", ""}, {"(p | q)", "(p | q)", ""}, {"(p & (q | r))", "(p & (q | r))", ""}, {"((p & q) & (q | r))", "((p & q) & (q | r))", ""}, {"(p | (q | r))", "(p | (q | r))", ""},
		{"((p(X) & r) | q(X,Y))", "(d1(X) | q(X,Y))", "d1(X): (p(X) & r)"}, {"(q(X,Y) | (r & p(X)))", "(q(X,Y) | d1(X))", "d1(X): (r & p(X))"}, {"((p & q) | r)", "(d1 | r)", "d1: (p & q)"}, {"((p(Y) & p(X)) | r)", "(d1(X,Y) | r)", "d1(X,Y): (p(Y) & p(X))"}, {"((true & false) | r)", "(d1 | r)", "d1: (true & false)"}, {"((q(X2,X10) & X1 = a) | r)", "(d1(X1,X10,X2) | r)", "d1(X1,X10,X2): (q(X2,X10) & X1 = a)"},
		{"((p(a) & q(f(b),c)) | p(X))", "(d1 | p(X))", "d1: (p(a) & q(f(b),c))"}, {"(p(Z) & ((p(X) & p(Y)) | r))", "(p(Z) & (d1(X,Y) | r))", "d1(X,Y): (p(X) & p(Y))"},
		// Side by side.
		{"((p & q) | (r & s))", "(d1 | d2)", "d1: (p & q); d2: (r & s)"}, {"((r & s) | (p & q))", "(d1 | d2)", "d1: (r & s); d2: (p & q)"}, {"((p & q) | (p & q))", "(d1 | d2)", "d1: (p & q); d2: (p & q)"}, {"((p | (q & r)) | ((q & r) | p))", "((p | d1) | (d2 | p))", "d1: (q & r); d2: (q & r)"}, {"(((p & q) | r) & ((r & s) | p))", "((d1 | r) & (d2 | p))", "d1: (p & q); d2: (r & s)"}, {"((a & b) | ((c & d) | (e & f)))", "(d1 | (d2 | d3))", "d1: (a & b); d2: (c & d); d3: (e & f)"}, {"(((a & b) | (c & d)) | (e & f))", "((d1 | d2) | d3)", "d1: (a & b); d2: (c & d); d3: (e & f)"},
		// Nested in one another.
		{"((p & (q & r)) | s)", "(d1 | s)", "d1: (p & (q & r))"}, {"(((p & q) & r) | s)", "(d1 | s)", "d1: ((p & q) & r)"}, {"((p & (q | (r & s))) | b)", "(d2 | b)", "d1: (r & s); d2: (p & (q | d1))"}, {"(b | ((q | (r & s)) & p))", "(b | d2)", "d1: (r & s); d2: ((q | d1) & p)"}, {"((((a & b) | c) & ((e & f) | h)) | i)", "(d3 | i)", "d1: (a & b); d2: (e & f); d3: ((d1 | c) & (d2 | h))"},
		{"((a & (b | (c & (e | (f & h))))) | i)", "(d3 | i)", "d1: (f & h); d2: (c & (e | d1)); d3: (a & (b | d2))"}, {"((p(X) & (q(Y,Y) | (p(Z) & p(W)))) | r)", "(d2(W,X,Y,Z) | r)", "d1(W,Z): (p(Z) & p(W)); d2(W,X,Y,Z): (p(X) & (q(Y,Y) | d1(W,Z)))"}, {"((p & (q & (r | (s & a)))) | b)", "(d2 | b)", "d1: (s & a); d2: (p & (q & (r | d1)))"},
		// Of two that are not nested in one another the left one comes first, however deep both are.
		{"((a & (b | (c & e))) | (f & h))", "(d2 | d3)", "d1: (c & e); d2: (a & (b | d1)); d3: (f & h)"}, {"((f & h) | (a & (b | (c & e))))", "(d1 | d3)", "d1: (f & h); d2: (c & e); d3: (a & (b | d2))"}, {"((a & b) | (((c & e) | f) & ((h & i) | j)))", "(d1 | d4)", "d1: (a & b); d2: (c & e); d3: (h & i); d4: ((d2 | f) & (d3 | j))"}, {"(((a & b) | c) & (((e & (f | (h & i))) | j) | k))", "((d1 | c) & ((d3 | j) | k))", "d1: (a & b); d2: (h & i); d3: (e & (f | d2))"},
		{"((a & (b | (c & (e | (f & h))))) | (i & (j | (k & l))))", "(d3 | d5)", "d1: (f & h); d2: (c & (e | d1)); d3: (a & (b | d2)); d4: (k & l); d5: (i & (j | d4))"},
		// Names that occur: a predicate, a constant, a function, with any number of arguments and outside of the conjunctions.
		{"((p & d1) | q)", "(d2 | q)", "d2: (p & d1)"}, {"((p & q) | d1(X))", "(d2 | d1(X))", "d2: (p & q)"}, {"((p & q) | p(d1))", "(d2 | p(d1))", "d2: (p & q)"}, {"((p & q) | p(f(d1(a))))", "(d2 | p(f(d1(a))))", "d2: (p & q)"}, {"((p & q) | ~(a = d1))", "(d2 | ~(a = d1))", "d2: (p & q)"}, {"((p & q) | (r & p(d2)))", "(d1 | d3)", "d1: (p & q); d3: (r & p(d2))"}, {"(d1 & ((p & q) | (r & p(d3))))", "(d1 & (d2 | d4))", "d2: (p & q); d4: (r & p(d3))"},
		{"((p & q) | (d & (d0 & (d01 & (d10 & (d1a & d_1))))))", "(d1 | d2)", "d1: (p & q); d2: (d & (d0 & (d01 & (d10 & (d1a & d_1)))))"}, {"((p(D1) & q) | r)", "(d1(D1) | r)", "d1(D1): (p(D1) & q)"},
		// MaxArity variables.
		{"((q(A,B) & q(C,D)) | p(E))", "(d1(A,B,C,D) | p(E))", "d1(A,B,C,D): (q(A,B) & q(C,D))"}, {"((q(D,C) & (q(B,A) & q(A,D))) | (p(E) & q(F,G)))", "(d1(A,B,C,D) | d2(E,F,G))", "d1(A,B,C,D): (q(D,C) & (q(B,A) & q(A,D))); d2(E,F,G): (p(E) & q(F,G))"}, {"((q(A,B) | q(C,D)) | p(E))", "((q(A,B) | q(C,D)) | p(E))", ""}, {"((q(A,B) & q(C,D)) & p(E))", "((q(A,B) & q(C,D)) & p(E))", ""},
	} {
		f, list, ok := impl.DefineConjunctions(formula(c.f))
		if formulaText(f) != c.want || definitionTexts(list) != c.definitions || !ok {
			t.Errorf("%s becomes %s, %v with %s", c.f, formulaText(f), ok, definitionTexts(list))
		}
	}
}

// checkDefined tests one result against the definition and the guarantee.
func checkDefined(t *testing.T, f impl.Formula) ([]impl.Definition, bool) {
	t.Helper()
	want, wantList, fits := plainDefine(f)
	r, list, ok := impl.DefineConjunctions(f)
	if ok != fits || !sameFormula(r, want) || !slices.EqualFunc(list, wantList, sameDefinition) {
		t.Fatalf("%s becomes %s, %v with %s", formulaText(f), formulaText(r), ok, definitionTexts(list))
	}
	if !ok {
		return list, ok
	}
	if !isProperFormula(r) || len(conjunctionsIn(&r)) > 0 {
		t.Fatalf("%s becomes %s", formulaText(f), formulaText(r))
	}
	for _, d := range list {
		if !isProperDefinition(d) || len(conjunctionsIn(&d.Formula)) > 0 {
			t.Fatalf("%s becomes %s with %s", formulaText(f), formulaText(r), definitionTexts(list))
		}
	}
	if g, fine := impl.UnfoldDefinitions(r, list); !sameFormula(g, f) || !fine {
		t.Fatalf("%s becomes %s with %s and then %s, %v", formulaText(f), formulaText(r), definitionTexts(list), formulaText(g), fine)
	}
	return list, ok
}

func TestNumbersOfDefinedVariables(t *testing.T) {
	for count := range 8 {
		conjunction := joined(impl.OpAnd, atomic(node("r")), atomic(leaves(append(nodes(names(count)...), node("a"))...)))
		for _, f := range []impl.Formula{
			joined(impl.OpOr, conjunction, atomic(node("s"))), joined(impl.OpOr, atomic(node("s")), conjunction), joined(impl.OpOr, joined(impl.OpAnd, atomic(node("s")), joined(impl.OpOr, atomic(node("s")), conjunction)), atomic(node("s"))),
			joined(impl.OpOr, conjunction, joined(impl.OpAnd, atomic(node("p", node("Y"))), atomic(node("s")))), joined(impl.OpAnd, conjunction, joined(impl.OpOr, conjunction, conjunction)),
		} {
			if list, ok := checkDefined(t, f); ok != (count <= 4) || ok && len(list[0].Vars) != count {
				t.Errorf("%s has the definitions %s, %v", formulaText(f), definitionTexts(list), ok)
			}
		}
	}
	// Inside, there are few enough variables, but not around.
	for _, text := range []string{"((q(A,B) & (p(C) | (p(D) & p(E)))) | r)", "(r | (p(A) & (r | (q(B,C) & q(D,E)))))", "((q(A,B) & (q(C,D) & p(E))) | r)", "((r & s) | (q(A,B) & (q(C,D) & p(E))))", "((q(A,B) & r(C,D,E)) | (r & s))"} {
		if list, ok := checkDefined(t, formula(text)); len(list) > 0 || ok {
			t.Errorf("%s has the definitions %s, %v", text, definitionTexts(list), ok)
		}
	}
}

func TestDefinitionsFollowTheDefinition(t *testing.T) {
	list, source, counts := []impl.Formula{}, rand.New(rand.NewPCG(9, 11)), map[string]int{}
	names := map[string]impl.Term{"X": node("d1"), "Y": node("d3", node("Y")), "a": node("Y")}
	for range 20000 {
		f := randomOpen(source, 1+source.IntN(40), "X", "Y", "Z", "a")
		if source.IntN(4) == 0 {
			f = renamedAll(f, names)
		}
		list = append(list, f)
	}
	for range 2000 {
		list = append(list, randomOpen(source, 10+source.IntN(20), "A", "B", "C", "D", "E", "F"))
	}
	for _, f := range append(list, normalFormulas()...) {
		switch list, ok := checkDefined(t, f); {
		case !ok:
			counts["failed"]++
		default:
			counts[strconv.Itoa(min(3, len(list)))]++
		}
	}
	if counts["failed"] < 1000 || counts["0"] < 1000 || counts["1"] < 1000 || counts["2"] < 1000 || counts["3"] < 1000 {
		t.Error("the numbers of results are", counts)
	}
	// As many definitions as there can be: each conjunction is a part of a disjunction.
	f := atomic(node("p", node("X")))
	for i := 0; plainSize(f)+4 <= 40; i++ {
		f = joined(impl.OpOr, joined(impl.OpAnd, f, atomic(node("d"+strconv.Itoa(2*i+1)))), constant(impl.OpFalse))
	}
	if list, ok := checkDefined(t, f); len(list) != 9 || !ok || list[8].Name != "d18" {
		t.Errorf("%s has the definitions %s, %v", formulaText(f), definitionTexts(list), ok)
	}
}

func TestFormulasWithoutDefinitions(t *testing.T) {
	list := formulaList("all X.p(X)", "some X.p(X)", "all X.r", "(r | all X.p(X))", "((p & some X.p(X)) | r)", "((p & q) | (r & all X.p(X)))", "((p & ~~q) | r)", "((p & q) | ~(r & s))", "((p & q) | ~true)", "((p & q) => r)", "((p => q) | (r & s))", "~((p & q) | r)")
	for _, f := range abnormal() {
		list = append(list, negationNormalPlaces(f)...)
	}
	for _, f := range list {
		if r, list, ok := impl.DefineConjunctions(f); !isZeroFormula(r) || len(list) > 0 || ok {
			t.Errorf("%s becomes %s, %v with %s", formulaText(f), formulaText(r), ok, definitionTexts(list))
		}
	}
}

// Under the definitions of its conjunctions, the resulting formula is true exactly where f is.
func TestDefinitionsPreserveTruth(t *testing.T) {
	source, counts, all := rand.New(rand.NewPCG(9, 12)), map[bool]int{}, models()
	for range 4000 {
		f := randomOpen(source, 5+source.IntN(15), "X", "Y", "a")
		r, list, ok := impl.DefineConjunctions(f)
		if !ok || len(list) == 0 {
			continue
		}
		m := all[source.IntN(len(all))]
		for _, assignment := range m.assignments(plainFree(f)) {
			isRight := true
			for _, d := range list {
				isRight = isRight && m.holds(atomic(node(d.Name, nodes(d.Vars...)...)), assignment) == m.holds(d.Formula, assignment)
			}
			if isTrue := m.holds(f, assignment); isRight {
				if m.holds(r, assignment) != isTrue {
					t.Fatalf("%s is %v, but %s is not, with %s", formulaText(f), isTrue, formulaText(r), definitionTexts(list))
				}
				counts[isTrue]++
			}
		}
	}
	if counts[true] < 1000 || counts[false] < 500 {
		t.Error("the numbers of results are", counts)
	}
}

func TestUnfoldDefinitions(t *testing.T) {
	for _, c := range []struct {
		f    string
		list []string
		want string
	}{
		{"r", nil, "r"}, {"(p(X) => ~~true)", nil, "(p(X) => ~~true)"}, {"(d1(X) | q(X,Y))", []string{"d1(X): (p(X) & r)"}, "((p(X) & r) | q(X,Y))"}, {"d1", []string{"d1: r"}, "r"}, {"~d1", []string{"d1: a = b"}, "~(a = b)"}, {"(d1 => d1)", []string{"d1: (p & q)"}, "((p & q) => (p & q))"}, {"~~~d1", []string{"d1: ~r"}, "~~~~r"}, {"d1(a)", []string{"d1(X): q(X,X)"}, "q(a,a)"}, {"d1(a)", []string{"d1(X): true"}, "true"}, {"d1(f(Y))", []string{"d1(X): X = f(X)"}, "f(Y) = f(f(Y))"},
		{"(d1(a) & (d1(b) | d1(X)))", []string{"d1(X): (p(X) => r)"}, "((p(a) => r) & ((p(b) => r) | (p(X) => r)))"}, {"r(a,b,c)", []string{"r(X,Y,Z): s(Z,Y,X)"}, "s(c,b,a)"}, {"d1(a,b,c,d)", []string{"d1(A,B,C,D): (q(D,C) | q(B,A))"}, "(q(d,c) | q(b,a))"}, {"p(X)", []string{"p(Zab9): q(Zab9,Zab9)"}, "q(X,X)"},
		// The arguments have the variables of the definition, which are replaced at once.
		{"d1(Y,X)", []string{"d1(X,Y): q(X,Y)"}, "q(Y,X)"}, {"d1(X)", []string{"d1(X): p(X)"}, "p(X)"}, {"d1(f(X))", []string{"d1(X): q(X,f(X))"}, "q(f(X),f(f(X)))"}, {"d1(Y,Z,X)", []string{"d1(X,Y,Z): r(X,Y,Z)"}, "r(Y,Z,X)"}, {"d1(g(X,Y),X)", []string{"d1(X,Y): X = Y"}, "g(X,Y) = X"}, {"d1(Y,Y)", []string{"d1(X,Y): q(X,Y)"}, "q(Y,Y)"},
		// Variables that are not among the Vars stay, and so do Vars without occurrence.
		{"d1(a)", []string{"d1(X): q(X,Y)"}, "q(a,Y)"}, {"d1(Y)", []string{"d1(X): q(X,Y)"}, "q(Y,Y)"}, {"d1", []string{"d1: p(X)"}, "p(X)"}, {"d1(a,b)", []string{"d1(X,Y): p(Y)"}, "p(b)"}, {"d1(X)", []string{"d1(X): q(Y,Z)"}, "q(Y,Z)"},
		// Only atoms count, not functions or constants.
		{"p(d1)", []string{"d1: r"}, "p(d1)"}, {"(p(d1(a)) & d1(a))", []string{"d1(X): p(X)"}, "(p(d1(a)) & p(a))"}, {"d1 = d1(a)", []string{"d1: r"}, "d1 = d1(a)"}, {"d1(d1(a))", []string{"d1(X): p(X)"}, "p(d1(a))"}, {"(d11 & d)", []string{"d1: r"}, "(d11 & d)"},
		// From the last to the first.
		{"d2", []string{"d1: (p & q)", "d2: (d1 | r)"}, "((p & q) | r)"}, {"(d3 | d5)", []string{"d1: (f & h)", "d2: (c & (e | d1))", "d3: (a & (b | d2))", "d4: (k & l)", "d5: (i & (j | d4))"}, "((a & (b | (c & (e | (f & h))))) | (i & (j | (k & l))))"}, {"d2(a)", []string{"d1(X,Y): q(Y,X)", "d2(X): d1(X,f(X))"}, "q(f(a),a)"}, {"(d1 & d2)", []string{"d1: p", "d2: q"}, "(p & q)"}, {"d1", []string{"d1: p", "d2: q"}, "p"}, {"r", []string{"d1: p", "d2: q"}, "r"},
		// Out of order.
		{"d2", []string{"d2: (d1 | r)", "d1: (p & q)"}, "(d1 | r)"}, {"(d1 & d2)", []string{"d2: (d1 | r)", "d1: (p & q)"}, "((p & q) & (d1 | r))"}, {"d1", []string{"d1: d2", "d2: d1"}, "d2"}, {"d2", []string{"d1: d2", "d2: d1"}, "d2"}, {"(d1 | d3)", []string{"d1: d2", "d3: d1", "d2: d3"}, "(d2 | d2)"},
		// A definition that has its own Name, and the same Name twice.
		{"d1", []string{"d1: (d1 & r)"}, "(d1 & r)"}, {"d1(a)", []string{"d1(X): d1(f(X))"}, "d1(f(a))"}, {"d1", []string{"d1: (d1 & p)", "d1: (d1 | q)"}, "((d1 & p) | q)"}, {"d1", []string{"d1: p", "d1: q"}, "q"}, {"d1", []string{"d1: p", "d1: d1"}, "p"}, {"d1(a)", []string{"d1: p", "d1(X): q(X,X)"}, "q(a,a)"}, {"d1(a)", []string{"d1: p", "d1(X): d1"}, "p"}, {"(d1 & r)", []string{"d1: (d1 & d1)", "d1: (d1 & d1)", "d1: d1"}, "(((d1 & d1) & (d1 & d1)) & r)"},
		// Names of other kinds.
		{"p(a)", []string{"p(X): ~p(X)"}, "~p(a)"}, {"q(a,b)", []string{"q(X,Y): X = Y"}, "a = b"},
	} {
		if f, ok := impl.UnfoldDefinitions(formula(c.f), definitions(c.list...)); formulaText(f) != c.want || !ok {
			t.Errorf("%s with %q becomes %s, %v", c.f, c.list, formulaText(f), ok)
		}
	}
}

// checkUnfolded tests one result against the definition.
func checkUnfolded(t *testing.T, f impl.Formula, list []impl.Definition) (impl.Formula, bool) {
	t.Helper()
	want, fits := plainUnfold(f, list)
	r, ok := impl.UnfoldDefinitions(f, list)
	if ok != fits || !sameFormula(r, want) {
		t.Fatalf("%s with %s becomes %s, %v", formulaText(f), definitionTexts(list), formulaText(r), ok)
	}
	return r, ok
}

func TestDefinitionsThatAreNotUnfolded(t *testing.T) {
	for _, c := range []struct {
		f    string
		list []string
	}{
		// Another number of arguments.
		{"d1", []string{"d1(X): p(X)"}}, {"d1(a)", []string{"d1: r"}}, {"d1(a)", []string{"d1(X,Y): p(X)"}}, {"d1(a,b)", []string{"d1(X): p(X)"}}, {"d1(a,b,c,d)", []string{"d1(A,B,C): p(A)"}}, {"(r & (d1(a) | ~d1))", []string{"d1(X): p(X)"}}, {"(r & (~d1(a) | d1))", []string{"d1: r"}},
		{"d2", []string{"d1: p", "d2: d1(a)"}}, {"d1(a)", []string{"d1: p", "d1(X): d1(X)"}}, {"d1(a)", []string{"d1(X): q(X,X)", "d1: p"}},
		// Quantifiers.
		{"all X.p(X)", nil}, {"some X.p(X)", nil}, {"(d1 & ~all X.p(X))", []string{"d1: r"}}, {"all X.r", []string{"d1: r"}}, {"d1", []string{"d1: all X.p(X)"}}, {"d1", []string{"d1: (r & ~some X.r)"}}, {"r", []string{"d1: all X.p(X)"}}, {"r", []string{"d2: r", "d1: some X.r", "d3: r"}}, {"p(X)", []string{"p(X): all Y.q(X,Y)"}},
		// Atoms that become too large, even if they are replaced afterwards.
		{"d1(h(a,a,a,a))", []string{"d1(X): h(h(X,X,X,X),X,X,X)"}}, {"d1(f(f(f(a))))", []string{"d1(X): f(f(f(f(f(X)))))"}}, {"d2(h(a,a,a,a))", []string{"d1(X): r", "d2(X): d1(h(h(X,X,X,X),X,X,X))"}}, {"d2(f(f(f(a))))", []string{"d1(X): true", "d2(X): d1(f(f(f(f(X)))))"}},
	} {
		if r, ok := checkUnfolded(t, formula(c.f), definitions(c.list...)); !isZeroFormula(r) || ok {
			t.Errorf("%s with %q becomes %s, %v", c.f, c.list, formulaText(r), ok)
		}
	}
}

func TestNamesAndVarsOfDefinitions(t *testing.T) {
	r := atomic(node("r"))
	for _, name := range append(possibleNames(), "p", "d1", "abcdef", "abcdefg", "a_9z__", "X", "=", "d1 ", "trues") {
		isName := impl.IsValidTerm(node(name)) && !isVariable(node(name))
		for _, list := range [][]impl.Definition{{{Name: name, Formula: r}}, {definition("d1: r"), {Name: name, Formula: r}, definition("d2: r")}} {
			if f, ok := impl.UnfoldDefinitions(r, list); ok != isName || ok && formulaText(f) != "r" || !ok && !isZeroFormula(f) {
				t.Fatalf("a definition with the name %q: %s, %v", name, formulaText(f), ok)
			}
		}
		isVar := variableName.MatchString(name)
		d := impl.Definition{Name: "d1", Vars: []string{name}, Formula: atomic(node("s"))}
		if f, ok := impl.UnfoldDefinitions(formula("d1(a)"), []impl.Definition{d}); ok != isVar || ok && formulaText(f) != "s" || !ok && !isZeroFormula(f) {
			t.Fatalf("a definition with the variable %q: %s, %v", name, formulaText(f), ok)
		}
	}
	for _, c := range []struct {
		vars  string
		isFit bool
	}{
		{"X,Y", true}, {"Y,X", false}, {"X,X", false}, {"X,X,Y", false}, {"X,Y,Y", false}, {"X,Z,Y", false}, {"X10,X2", true}, {"X2,X10", false}, {"X,Xa", true}, {"Xa,X", false}, {"A,B,C,D", true}, {"A,B,C,D,E", true}, {"A,B,C,D,E,F,G,H,I,J", true}, {"A,B,D,C", false}, {"B,A,C,D", false}, {"A,B,C,D,D", false}, {"A,b", false}, {"a,B", false}, {"A,", false}, {",A", false}, {"A,B,CD", false}, {"A,B,C,Dabcd", false}, {"", false},
	} {
		d := impl.Definition{Name: "d1", Vars: strings.Split(c.vars, ","), Formula: r}
		if f, ok := checkUnfolded(t, formula("(s & d2)"), []impl.Definition{d}); ok != c.isFit || ok && formulaText(f) != "(s & d2)" {
			t.Errorf("a definition with the variables %s: %s, %v", c.vars, formulaText(f), ok)
		}
		atom := atomic(node("d1", slices.Repeat(nodes("a"), min(4, len(d.Vars)))...))
		if f, ok := checkUnfolded(t, atom, []impl.Definition{d}); ok != (c.isFit && len(d.Vars) <= 4) || ok && formulaText(f) != "r" {
			t.Errorf("%s and a definition with the variables %s: %s, %v", formulaText(atom), c.vars, formulaText(f), ok)
		}
	}
	many := longNames(900)
	slices.Reverse(many)
	if f, ok := checkUnfolded(t, r, []impl.Definition{{Name: "d1", Vars: many, Formula: r}}); formulaText(f) != "r" || !ok {
		t.Errorf("a definition with 900 variables: %s, %v", formulaText(f), ok)
	}
}

func TestSizesOfUnfoldedFormulas(t *testing.T) {
	for size := 1; size <= 40; size++ {
		for count := 1; count <= 5; count++ {
			d := impl.Definition{Name: "d1", Formula: balancedOf(size, impl.OpOr)}
			f := joinedAll(impl.OpAnd, slices.Repeat(formulaList("d1"), count)...)
			total := count*size + count - 1
			if r, ok := checkUnfolded(t, f, []impl.Definition{d}); ok != (total <= 40) || ok && plainSize(r) != total {
				t.Errorf("%d atoms of the size %d: %s, %v", count, size, formulaText(r), ok)
			}
			atoms := min(20, size)
			list := []impl.Definition{
				definition("d1: r"), {Name: "d2", Formula: joinedAll(impl.OpAnd, slices.Repeat(formulaList("d1"), atoms)...)}, {Name: "d3", Formula: joinedAll(impl.OpAnd, slices.Repeat(formulaList("d2"), count)...)},
			}
			total = count*(2*atoms-1) + count - 1
			if r, ok := checkUnfolded(t, formula("d3"), list); ok != (total <= 40) {
				t.Errorf("%d conjunctions of %d atoms: %s, %v", count, atoms, formulaText(r), ok)
			}
		}
	}
	// Each definition doubles the one before.
	list := []impl.Definition{}
	for i := range 60 {
		d := "d" + strconv.Itoa(i)
		list = append(list, definition("d"+strconv.Itoa(i+1)+": ("+d+" & "+d+")"))
		if r, ok := checkUnfolded(t, formula("d"+strconv.Itoa(i+1)), list); ok != (i < 4) {
			t.Errorf("%d doublings: %s, %v", i+1, formulaText(r), ok)
		}
	}
}

func TestUnfoldingsFollowTheDefinition(t *testing.T) {
	source, counts := rand.New(rand.NewPCG(9, 13)), map[string]int{}
	open := func(size int) impl.Formula {
		for {
			if f := randomFormula(source, size, "X", "Y", "Z", "a"); len(boundIn(f)) == 0 || source.IntN(50) == 0 {
				return f
			}
		}
	}
	for range 20000 {
		f, list := open(1+source.IntN(8)), []impl.Definition{}
		for range source.IntN(4) {
			name := "pqrs"[source.IntN(4):][:1]
			vars := map[string][]string{"p": {"X"}, "q": {"X", "Z"}, "r": {"W", "X", "Y"}, "s": nil}[name]
			if source.IntN(10) == 0 {
				vars = []string{"Y", "Z"}
			}
			list = append(list, impl.Definition{Name: name, Vars: vars, Formula: open(1 + source.IntN(5))})
		}
		r, ok := checkUnfolded(t, f, list)
		switch {
		case !ok:
			counts["failed"]++
		case sameFormula(r, f):
			counts["same"]++
		default:
			counts["changed"]++
		}
	}
	if counts["failed"] < 1000 || counts["same"] < 2000 || counts["changed"] < 2000 {
		t.Error("the numbers of results are", counts)
	}
}

func TestClausifyProblem(t *testing.T) {
	for _, c := range []struct {
		axioms     []string
		goal, want string
	}{
		// No axiom.
		{nil, "true", "$false"}, {nil, "false", ""}, {nil, "r", "~r"}, {nil, "~r", "r"}, {nil, "(p => p)", "p; ~p"}, {nil, "(p & q)", "~p | ~q"}, {nil, "(p | q)", "~p; ~q"}, {nil, "all X.p(X)", "~p(sk1)"}, {nil, "some X.p(X)", "~p(X0)"}, {nil, "a = a", "a != a"}, {nil, "~(a = a)", ""}, {nil, "some X.all Y.q(X,Y)", "~q(X0,sk1(X0))"}, {nil, "all X.some Y.q(X,Y)", "~q(sk1,X0)"},
		{[]string{"p(a)"}, "some X.p(X)", "p(a); ~p(X0)"}, {[]string{"all X.(p(X) => q(X,X))", "p(a)"}, "q(a,a)", "~p(X0) | q(X0,X0); p(a); ~q(a,a)"}, {[]string{"(p => q)", "(q => r)"}, "(p => r)", "~p | q; ~q | r; p; ~r"}, {[]string{"r"}, "false", "r"}, {[]string{"false"}, "r", "$false; ~r"}, {[]string{"true", "r"}, "r", "r; ~r"},
		// Free variables: the closures are treated, so that those of the goal become constants.
		{[]string{"p(X)"}, "p(Y)", "p(X0); ~p(sk1)"}, {nil, "q(Y,X)", "~q(sk2,sk1)"}, {[]string{"q(Y,X)"}, "some X.q(X,Y)", "q(X0,X1); ~q(X0,sk1)"}, {[]string{"some Y.q(X,Y)"}, "r", "q(X0,sk1(X0)); ~r"}, {[]string{"(p(X) | all X.r(X,X,X))"}, "X = a", "p(X0) | r(X1,X1,X1); sk1 != a"}, {[]string{"all Y.some Z.r(X,Y,Z)"}, "true", "r(X0,X1,sk1(X0,X1)); $false"},
		// Variables of one formula have nothing to do with those of another one.
		{[]string{"all X.p(X)", "some X.q(X,X)"}, "all X.p(X)", "p(X0); q(sk1,sk1); ~p(sk2)"}, {[]string{"(all X.p(X) & some X.~p(X))"}, "false", "p(X0); ~p(sk1)"}, {[]string{"all X.(p(X) & some X.q(X,X))"}, "false", "p(X0); q(sk1(X0),sk1(X0))"},
		// New names in several formulas.
		{[]string{"some X.p(X)", "some X.q(X,X)", "all X.some Y.q(X,Y)"}, "all X.r(X,X,X)", "p(sk1); q(sk2,sk2); q(X0,sk3(X0)); ~r(sk4,sk4,sk4)"}, {[]string{"some X.some Y.q(X,Y)"}, "all X.p(X)", "q(sk1,sk2); ~p(sk3)"}, {[]string{"some X.p(X)", "some X.p(X)"}, "r", "p(sk1); p(sk2); ~r"},
		{[]string{"some X.p(X)"}, "p(sk1)", "p(sk2); ~p(sk1)"}, {[]string{"some X.p(X)", "p(sk1(a))"}, "all X.p(X)", "p(sk2); p(sk1(a)); ~p(sk3)"}, {[]string{"some X.p(X)", "sk1"}, "all X.sk2(X)", "p(sk3); sk1; ~sk2(sk4)"}, {[]string{"some X.p(X)"}, "all X.q(X,sk2)", "p(sk1); ~q(sk3,sk2)"},
		// A name that is in no result may be used by the next formula.
		{[]string{"some X.r", "some X.p(X)"}, "all X.q(X,X)", "r; p(sk1); ~q(sk2,sk2)"}, {[]string{"some X.some Y.p(Y)"}, "all X.p(X)", "p(sk2); ~p(sk1)"}, {[]string{"some X.(p(X) | ~p(X))"}, "all X.p(X)", "~p(sk2)"},
		// Clauses that occur in several formulas.
		{[]string{"p", "p"}, "q", "p; ~q"}, {[]string{"p", "(q & p)", "(p & s)"}, "~p", "p; q; s"}, {[]string{"all X.p(X)", "all Y.p(Y)", "p(Z)"}, "some X.~p(X)", "p(X0)"}, {[]string{"false", "~true"}, "true", "$false"}, {[]string{"(p | q)", "(q | p)"}, "~(q | p)", "p | q"}, {[]string{"all X.all Y.q(X,Y)", "all X.all Y.q(Y,X)", "q(X,X)"}, "r", "q(X0,X1); q(X0,X0); ~r"},
		{[]string{"((p(X) & r) | q(X,X))"}, "(r => p(X))", "p(X0) | q(X0,X0); q(X0,X0) | r; r; ~p(sk1)"}, {[]string{"(p | ~p)", "X = X"}, "r", "~r"},
	} {
		if list, ok := impl.ClausifyProblem(formulaList(c.axioms...), formula(c.goal)); clauseTexts(list) != c.want || !ok {
			t.Errorf("%s from %q gives the clauses %s, %v", c.goal, c.axioms, clauseTexts(list), ok)
		}
	}
}

// checkProblem tests the clauses of one problem against the definition.
func checkProblem(t *testing.T, axioms []impl.Formula, goal impl.Formula) ([]impl.Clause, bool) {
	t.Helper()
	want, fits := plainClausify(axioms, goal)
	list, ok := impl.ClausifyProblem(axioms, goal)
	if ok != fits || ok && !slices.EqualFunc(list, want, sameClause) || !ok && len(list) > 0 {
		t.Fatalf("%s from %s gives the clauses %s, %v instead of %s, %v", formulaText(goal), formulaTextsOf(axioms), clauseTexts(list), ok, clauseTexts(want), fits)
	}
	return list, ok
}

func TestProblemsFollowTheDefinition(t *testing.T) {
	source, counts, list := rand.New(rand.NewPCG(9, 14)), map[string]int{}, formulas()
	check := func(axioms []impl.Formula, goal impl.Formula) {
		clauses, ok := checkProblem(t, axioms, goal)
		if !ok {
			counts["failed"]++
			return
		}
		counts[strconv.Itoa(min(4, len(clauses)))]++
	}
	for i, f := range list {
		check(nil, f)
		check([]impl.Formula{f, list[(i*7+1)%len(list)]}, list[(i*3+2)%len(list)])
	}
	for range 5000 {
		axioms := []impl.Formula{}
		for range source.IntN(4) {
			axioms = append(axioms, randomFormula(source, 1+source.IntN(12), "X", "Y", "a", "sk1"))
		}
		check(axioms, randomFormula(source, 1+source.IntN(12), "X", "Z", "a", "sk2"))
	}
	if counts["failed"] < 100 || counts["1"] < 300 || counts["2"] < 300 || counts["3"] < 300 || counts["4"] < 1000 {
		t.Error("the numbers of results are", counts)
	}
}

func TestNumbersOfClausesOfProblems(t *testing.T) {
	conjunction := func(prefix string, count int) impl.Formula {
		return joinedAll(impl.OpAnd, propositions(prefix, count)...)
	}
	r := atomic(node("r"))
	for first := 1; first <= 20; first++ {
		for second := 1; second <= 20; second++ {
			for _, goal := range []impl.Formula{constant(impl.OpFalse), r, negated(conjunction("p", 5))} {
				count := first + second
				if goal.Op == impl.OpAtom {
					count++
				}
				if goal.Op == impl.OpNot {
					count += max(0, 5-first)
				}
				list, ok := checkProblem(t, []impl.Formula{conjunction("p", first), conjunction("q", second)}, goal)
				if fits := count <= 30; ok != fits || ok && len(list) != count {
					t.Errorf("%d, %d and the goal %s: %d clauses, %v", first, second, formulaText(goal), len(list), ok)
				}
			}
		}
	}
	// Repeated clauses do not count.
	axioms := []impl.Formula{}
	for range 10 {
		axioms = append(axioms, conjunction("p", 20), conjunction("q", 9), conjunction("p", 10))
	}
	if list, ok := checkProblem(t, axioms, r); len(list) != 30 || !ok {
		t.Errorf("30 different clauses in 30 axioms: %d, %v", len(list), ok)
	}
	if list, ok := checkProblem(t, append(axioms, atomic(node("s"))), r); len(list) != 0 || ok {
		t.Errorf("31 different clauses in 31 axioms: %d, %v", len(list), ok)
	}
	// One formula has too many clauses by itself, before some of them are removed.
	if list, ok := checkProblem(t, nil, negated(joined(impl.OpAnd, product(6, 5), r))); len(list) != 0 || ok {
		t.Errorf("31 clauses of the goal: %d, %v", len(list), ok)
	}
	// There may be many axioms without clauses.
	many := slices.Repeat(formulaList("true", "(p | ~p)", "X = X", "p"), 2000)
	if list, ok := impl.ClausifyProblem(many, r); clauseTexts(list) != "p; ~r" || !ok {
		t.Errorf("many axioms: %s, %v", clauseTexts(list), ok)
	}
}

func TestSizesOfProblems(t *testing.T) {
	r := atomic(node("r"))
	for size := 1; size <= 40; size++ {
		for variables := range 4 {
			f := chainOf(size, atomic(leaves(append(nodes(names(variables)...), node("a"))...)), func(i int, f impl.Formula) impl.Formula { return negated(f) })
			if list, ok := checkProblem(t, []impl.Formula{f}, r); ok != (size+variables <= 40) {
				t.Errorf("an axiom of the size %d with %d variables: %s, %v", size, variables, clauseTexts(list), ok)
			}
			if list, ok := checkProblem(t, nil, f); ok != (size+variables <= 39) {
				t.Errorf("a goal of the size %d with %d variables: %s, %v", size, variables, clauseTexts(list), ok)
			}
			if list, ok := checkProblem(t, []impl.Formula{r, f, r}, f); ok != (size+variables <= 39) {
				t.Errorf("an axiom and a goal of the size %d with %d variables: %s, %v", size, variables, clauseTexts(list), ok)
			}
		}
	}
	// Each step may fail.
	for _, text := range []string{
		"all A.all B.all C.all D.all E.some F.p(F)", "all A.all B.all C.all D.all E.some F.r", "all Y.some X.p(f(f(f(f(f(f(X)))))))", "(p0 | (p1 | (p2 | (p3 | (p4 | (p5 | (p6 | (p7 | p8))))))))", "~(p0 & (p1 & (p2 & (p3 & (p4 & (p5 & (p6 & (p7 & (p8 & (p9 & (p10 & (p11 & (p12 & p13)))))))))))))",
	} {
		for _, axioms := range [][]string{{text}, {"p", text}, {text, "p"}} {
			if list, ok := checkProblem(t, formulaList(axioms...), formula("q")); len(list) != 0 || ok {
				t.Errorf("q from %q gives the clauses %s, %v", axioms, clauseTexts(list), ok)
			}
		}
		if list, ok := checkProblem(t, formulaList("p"), formula("~"+text)); len(list) != 0 || ok {
			t.Errorf("~%s gives the clauses %s, %v", text, clauseTexts(list), ok)
		}
	}
}

// naming lists formulas that have no clauses, and in which all the names occur.
func naming(names []string) []impl.Formula {
	list := []impl.Formula{}
	for part := range slices.Chunk(names, 22*18) {
		atoms := []impl.Formula{}
		for few := range slices.Chunk(part, 22) {
			atoms = append(atoms, atomic(leaves(nodes(few...)...)))
		}
		list = append(list, joined(impl.OpOr, constant(impl.OpTrue), joinedAll(impl.OpAnd, atoms...)))
	}
	return list
}

func TestProblemsWithoutNames(t *testing.T) {
	none, one := naming(skolemNames()), naming(skolemNames(5))
	for _, c := range []struct {
		named  []impl.Formula
		axioms []string
		goal   string
		want   string
	}{
		{none, []string{"some X.r"}, "r", "r; ~r"}, {none, nil, "all X.r", "~r"}, {none, []string{"all X.some Y.p(X)"}, "all Z.r", "p(X0); ~r"}, {none, []string{"(some X.r & some Y.p(a))"}, "some X.p(X)", "r; p(a); ~p(X0)"}, {none, []string{"~all X.r", "some X.s"}, "(r | some Y.s)", "~r; s; ~s"},
		{none, []string{"some X.p(X)"}, "r", ""}, {none, nil, "all X.p(X)", ""}, {none, nil, "p(X)", ""}, {none, []string{"some X.r", "some X.p(X)"}, "r", ""}, {none, []string{"some X.some Y.p(Y)"}, "r", ""}, {none, []string{"all A.all B.all C.all D.all E.some F.r"}, "r", ""},
		{one, []string{"some X.r", "some X.p(X)"}, "r", "r; p(sk5); ~r"}, {one, []string{"some X.p(X)", "some X.r"}, "all X.s", "p(sk5); r; ~s"}, {one, []string{"some X.some Y.p(X)"}, "r", "p(sk5); ~r"}, {one, []string{"some X.s"}, "p(X)", "s; ~p(sk5)"},
		{one, []string{"some X.some Y.p(Y)"}, "r", ""}, {one, []string{"some X.p(X)"}, "all X.p(X)", ""}, {one, []string{"some X.p(X)", "p(sk5)"}, "r", ""}, {one, []string{"some X.r"}, "sk5", "r; ~sk5"}, {one, []string{"some X.p(X)"}, "sk5", ""},
	} {
		list, ok := checkProblem(t, slices.Concat(c.named, formulaList(c.axioms...)), formula(c.goal))
		if ok != (c.want != "") || clauseTexts(list) != c.want {
			t.Errorf("%s from %q gives the clauses %s, %v instead of %s", c.goal, c.axioms, clauseTexts(list), ok, c.want)
		}
	}
	// Each name has an axiom of its own.
	axioms := []impl.Formula{}
	for _, name := range skolemNames() {
		axioms = append(axioms, formula("("+name+" | ~"+name+")"))
	}
	if list, ok := impl.ClausifyProblem(append(axioms, formula("some X.r")), formula("r")); clauseTexts(list) != "r; ~r" || !ok {
		t.Errorf("with 9999 axioms: %s, %v", clauseTexts(list), ok)
	}
	if list, ok := impl.ClausifyProblem(append(axioms, formula("some X.p(X)")), formula("r")); len(list) != 0 || ok {
		t.Errorf("with 9999 axioms and an occurrence: %s, %v", clauseTexts(list), ok)
	}
}

// isRefuted reports whether the axioms are true in m and the goal is not. All formulas are treated
// as their closures.
func (m model) isRefuted(axioms []impl.Formula, goal impl.Formula) bool {
	isFalse := func(f impl.Formula) bool { return !m.holds(plainClose(f), nil) }
	return !slices.ContainsFunc(axioms, isFalse) && isFalse(goal)
}

// checkExpansion tests that the new functions can be given values so that the clauses of a problem
// are true in m exactly if m refutes the problem. It returns whether it does, and whether there
// were few enough values to try.
func checkExpansion(t *testing.T, m model, list []impl.Clause, axioms []impl.Formula, goal impl.Formula) (bool, bool) {
	t.Helper()
	known := allNames(goal)
	for _, f := range axioms {
		maps.Copy(known, allNames(f))
	}
	isRefuted := m.isRefuted(axioms, goal)
	found, isTried := m.hasExpansion(list, introduced(list, known))
	if isTried && found != isRefuted {
		t.Fatalf("that %s follows from %s is refuted in the model %v: %v, but the clauses %s are not", formulaText(goal), formulaTextsOf(axioms), m, isRefuted, clauseTexts(list))
	}
	return isRefuted, isTried
}

func TestModelsOfProblems(t *testing.T) {
	source, counts, all := rand.New(rand.NewPCG(9, 15)), map[string]int{}, models()
	for range 6000 {
		axioms := []impl.Formula{}
		for range source.IntN(3) {
			axioms = append(axioms, randomFormula(source, 1+source.IntN(7), "X", "Y", "a"))
		}
		goal := randomFormula(source, 1+source.IntN(8), "X", "Y", "a")
		list, ok := impl.ClausifyProblem(axioms, goal)
		if !ok {
			continue
		}
		for range 4 {
			isRefuted, isTried := checkExpansion(t, all[source.IntN(len(all))], list, axioms, goal)
			counts[strconv.FormatBool(isTried)+strconv.FormatBool(isRefuted)]++
		}
	}
	if counts["truetrue"] < 3000 || counts["truefalse"] < 3000 {
		t.Error("the numbers of results are", counts)
	}
}

// monadicModels lists models of size 2 that differ in p, r, s, a or b, one for each possible
// meaning. If formulas of these symbols without equality have a model at all, one of these is one:
// only whether p holds makes elements differ.
func monadicModels() []model {
	found := map[string]model{}
	for number := 0; len(found) < 64; number++ {
		m, key := model{2, number}, ""
		for _, e := range []impl.Term{expr("p(X)"), expr("p(Y)"), node("r"), node("s")} {
			key += strconv.FormatBool(m.satisfies(yes(e), map[string]int{"X": 0, "Y": 1}))
		}
		key += strconv.Itoa(m.value(node("a"), nil)) + strconv.Itoa(m.value(node("b"), nil))
		if _, isKnown := found[key]; !isKnown {
			found[key] = m
		}
	}
	list := []model{}
	for _, key := range slices.Sorted(maps.Keys(found)) {
		list = append(list, found[key])
	}
	return list
}

// randomMonadic has atoms over p, r, s, a and b.
func randomMonadic(source *rand.Rand, size int) impl.Formula {
	f := randomFormula(source, size, "X", "Y", "a", "b")
	var reduce func(f impl.Formula) impl.Formula
	reduce = func(f impl.Formula) impl.Formula {
		r := impl.Formula{Op: f.Op, Var: f.Var}
		if f.Op == impl.OpAtom {
			r.Atom = f.Atom
			switch last := len(f.Atom.Args) - 1; {
			case last == 2:
				r.Atom = node("r")
			case last >= 0 && len(f.Atom.Args[last].Args) == 0:
				r.Atom = node("p", f.Atom.Args[last])
			case last >= 0:
				r.Atom = node("p", f.Atom.Args[last].Args[0])
			}
			if len(r.Atom.Args) > 0 && len(r.Atom.Args[0].Args) > 0 {
				r.Atom = node("s")
			}
		}
		for _, part := range f.Parts {
			r.Parts = append(r.Parts, reduce(part))
		}
		return r
	}
	return reduce(f)
}

// The clauses of a problem have no model exactly if the goal follows. For monadic problems the
// models of size 2 decide both.
func TestMonadicProblems(t *testing.T) {
	source, counts, all := rand.New(rand.NewPCG(9, 16)), map[string]int{}, monadicModels()
	check := func(axioms []impl.Formula, goal impl.Formula) (bool, bool) {
		list, ok := checkProblem(t, axioms, goal)
		if !ok {
			counts["failed"]++
			return false, false
		}
		follows := true
		for _, m := range all {
			isRefuted, isTried := checkExpansion(t, m, list, axioms, goal)
			if !isTried {
				counts["failed"]++
				return false, false
			}
			follows = follows && !isRefuted
		}
		counts[strconv.FormatBool(follows)]++
		return follows, true
	}
	for range 1500 {
		axioms := []impl.Formula{}
		for range source.IntN(3) {
			axioms = append(axioms, randomMonadic(source, 1+source.IntN(8)))
		}
		check(axioms, randomMonadic(source, 1+source.IntN(8)))
	}
	if counts["true"] < 200 || counts["false"] < 200 || counts["failed"] > 500 {
		t.Error("the numbers of results are", counts)
	}
	for _, c := range []struct {
		axioms  []string
		goal    string
		follows bool
	}{
		{nil, "(r | ~r)", true}, {nil, "r", false}, {nil, "(((r => s) => r) => r)", true}, {[]string{"r", "(r => s)"}, "s", true}, {[]string{"(r => s)"}, "(s => r)", false}, {[]string{"false"}, "r", true}, {[]string{"p(a)"}, "some X.p(X)", true}, {[]string{"some X.p(X)"}, "p(a)", false}, {[]string{"all X.p(X)"}, "(p(a) & p(b))", true}, {[]string{"p(a)", "p(b)"}, "all X.p(X)", false},
		{nil, "some X.(p(X) => all Y.p(Y))", true}, {nil, "all X.(p(X) => all Y.p(Y))", false}, {nil, "some X.all Y.(p(X) => p(Y))", true}, {[]string{"~all X.p(X)"}, "some X.~p(X)", true}, {[]string{"~some X.p(X)"}, "all X.~p(X)", true}, {[]string{"all X.(p(X) | r)"}, "(all X.p(X) | r)", true}, {[]string{"all X.(p(X) => r)"}, "(some X.p(X) => r)", true}, {[]string{"(all X.p(X) => r)"}, "(some X.p(X) => r)", false},
		{nil, "(all X.p(X) => some X.p(X))", true}, {nil, "(some X.p(X) => all X.p(X))", false}, {nil, "(all X.all X.p(X) => all X.p(X))", true}, {nil, "(some X.p(X) & all X.p(X))", false}, {[]string{"(p(X) & some X.~p(X))"}, "false", true}, {[]string{"p(X)"}, "p(Y)", true}, {[]string{"(p(X) | p(Y))"}, "p(X)", true}, {[]string{"(p(X) => p(Y))"}, "(some Z.p(Z) => p(a))", true},
	} {
		follows, ok := check(formulaList(c.axioms...), formula(c.goal))
		if follows != c.follows || !ok {
			t.Errorf("%s follows from %q: %v, %v", c.goal, c.axioms, follows, ok)
		}
	}
}

// checkNothingClausified tests that no function has a result for an invalid Formula.
func checkNothingClausified(t *testing.T, i int, f impl.Formula) {
	t.Helper()
	if r, ok := impl.NegationNormalForm(f); !isZeroFormula(r) || ok {
		t.Error("NegationNormalForm:", i, ok)
	}
	if yes, ok := impl.IsNegationNormal(f); yes || ok {
		t.Error("IsNegationNormal:", i, yes, ok)
	}
	if r, ok := impl.SeparateVariables(f); !isZeroFormula(r) || ok {
		t.Error("SeparateVariables:", i, ok)
	}
	for _, used := range [][]string{nil, {"sk1"}} {
		if r, ok := impl.Skolemize(f, used); !isZeroFormula(r) || ok {
			t.Error("Skolemize:", i, ok)
		}
	}
	if list, ok := impl.ClauseForm(f); len(list) != 0 || ok {
		t.Error("ClauseForm:", i, clauseTexts(list), ok)
	}
	if r, list, ok := impl.DefineConjunctions(f); !isZeroFormula(r) || len(list) != 0 || ok {
		t.Error("DefineConjunctions:", i, len(list), ok)
	}
	r, d := formula("r"), definition("d1: s")
	unused := impl.Definition{Name: "d2", Formula: f}
	for _, list := range [][]impl.Definition{nil, {d}, {unused}} {
		if r, ok := impl.UnfoldDefinitions(f, list); !isZeroFormula(r) || ok {
			t.Error("UnfoldDefinitions:", i, ok)
		}
	}
	for _, list := range [][]impl.Definition{{unused}, {d, unused}, {unused, d}, {d, unused, d}} {
		for _, g := range []impl.Formula{r, formula("d2"), formula("(d1 & d2)")} {
			if r, ok := impl.UnfoldDefinitions(g, list); !isZeroFormula(r) || ok {
				t.Error("UnfoldDefinitions:", i, formulaText(g), ok)
			}
		}
	}
	for _, axioms := range [][]impl.Formula{{f}, {r, f}, {f, r}, {r, f, r}} {
		if list, ok := impl.ClausifyProblem(axioms, r); len(list) != 0 || ok {
			t.Error("ClausifyProblem:", i, clauseTexts(list), ok)
		}
	}
	for _, axioms := range [][]impl.Formula{nil, {r}, {f}} {
		if list, ok := impl.ClausifyProblem(axioms, f); len(list) != 0 || ok {
			t.Error("ClausifyProblem:", i, clauseTexts(list), ok)
		}
	}
}

func TestInvalidFormulasAreNotClausified(t *testing.T) {
	for i, f := range append(invalidFormulas(), unboundedFormulas()...) {
		checkNothingClausified(t, i, f)
	}
}

func TestLongArguments(t *testing.T) {
	f, count := formula("all X.some Y.q(X,Y)"), 300000
	if r, ok := impl.Skolemize(f, slices.Repeat([]string{"sk1", "sk3", "", "x"}, count)); formulaText(r) != "all X.q(X,sk2(X))" || !ok {
		t.Errorf("many names: %s, %v", formulaText(r), ok)
	}
	many := slices.Repeat(definitions("d1: d2", "d2: d1", "d3: (d3 & d3)"), count/10)
	if r, ok := impl.UnfoldDefinitions(formula("(d1 | r)"), many); formulaText(r) != "(d2 | r)" || !ok {
		t.Errorf("many definitions: %s, %v", formulaText(r), ok)
	}
	if r, ok := impl.UnfoldDefinitions(formula("(d3 | r)"), many); !isZeroFormula(r) || ok {
		t.Errorf("many definitions: %s, %v", formulaText(r), ok)
	}
	if r, ok := impl.UnfoldDefinitions(formula("r"), make([]impl.Definition, count)); !isZeroFormula(r) || ok {
		t.Errorf("many zero definitions: %s, %v", formulaText(r), ok)
	}
	if list, ok := impl.ClausifyProblem(make([]impl.Formula, count), formula("r")); len(list) != 0 || ok {
		t.Errorf("many zero axioms: %s, %v", clauseTexts(list), ok)
	}
}

// formulasWithRoom copies a list so that all its lists have elements beyond their lengths.
func formulasWithRoom(list []impl.Formula) []impl.Formula {
	room := []impl.Formula{}
	for _, f := range list {
		room = append(room, formulaWithRoom(f))
	}
	return append(room, formula("beyond"), impl.Formula{})[:len(list)]
}

func areFormulasKept(room, list []impl.Formula) bool {
	beyond := room[len(list) : len(list)+2]
	return slices.EqualFunc(room, list, isFormulaKept) && formulaText(beyond[0]) == "beyond" && isZeroFormula(beyond[1])
}

func namesWithRoom(list []string) []string {
	return append(slices.Clone(list), "sk1", "sk2", "Zzzz")[:len(list)]
}

func areNamesKept(room, list []string) bool {
	return slices.Equal(room[:len(list)+3], append(slices.Clone(list), "sk1", "sk2", "Zzzz"))
}

// definitionsWithRoom copies a list so that all its lists have elements beyond their lengths.
func definitionsWithRoom(list []impl.Definition) []impl.Definition {
	room := []impl.Definition{}
	for _, d := range list {
		room = append(room, impl.Definition{Name: d.Name, Vars: namesWithRoom(d.Vars), Formula: formulaWithRoom(d.Formula)})
	}
	return append(room, definition("d1: beyond"), impl.Definition{})[:len(list)]
}

func areDefinitionsKept(room, list []impl.Definition) bool {
	isKept := func(r, d impl.Definition) bool {
		return r.Name == d.Name && slices.Equal(r.Vars, d.Vars) && areNamesKept(r.Vars, d.Vars) && isFormulaKept(r.Formula, d.Formula)
	}
	beyond := room[len(list) : len(list)+2]
	return slices.EqualFunc(room, list, isKept) && definitionTexts(beyond[:1]) == "d1: beyond" && sameDefinition(beyond[1], impl.Definition{})
}

// memoryDefinitions lists lists of definitions, some of which are not valid.
func memoryDefinitions() [][]impl.Definition {
	return [][]impl.Definition{
		nil, definitions("d1: r"), definitions("d1(X): (p(X) & q(X,f(X)))", "p(X): d1(X)", "q(X,Y): (X = Y | d1(Y))"), definitions("d1: all X.p(X)"), definitions("p(X): ~p(f(X))", "p(X): ~p(f(X))", "r: s", "q(X,Y): q(Y,X)"),
		{{}, {Name: "d1", Vars: []string{"Y", "X"}, Formula: formula("r")}, {Name: "X", Formula: formula("p(X)")}}, {{Name: "p", Vars: []string{"X"}}},
	}
}

// clausificationFormulas lists formulas for which the functions have results, and some for which
// they have none.
func clausificationFormulas() []impl.Formula {
	list := append(memoryFormulas(), formulaList(
		"((p(X) & r) | q(X,X))", "((p(X) & p(X)) | (p(X) & p(X)))", "(true & (p(X) | false))", "all V1.some V2.(q(V1,V2) & (p(V2) | r(V2,V1,f(V2))))", "(all V1.some V2.q(V1,V2) | q(X,Y))", "((p(X) & (q(X,Y) | (r & p(f(f(Y)))))) | (p(a) & (r | (p(X) & p(X)))))",
		"(p(X) & (q(X,Y) | p(g(f(X),X))))", "d1(g(X,Y))", "((p(X) | ~r) & (p(f(X)) | q(f(X),g(X,X))))", "(some V1.(p(V1) & q(f(V1),V1)) & q(X,f(Y)))",
	)...)
	for i, f := range normalFormulas() {
		if i%40 == 0 {
			list = append(list, f)
		}
	}
	return list
}

func separatedIfProper(f impl.Formula) impl.Formula {
	if !isProperFormula(f) {
		return f
	}
	return plainSeparate(f)
}

func TestClausificationArgumentsAreNotChanged(t *testing.T) {
	list, lists := clausificationFormulas(), memoryDefinitions()
	for i, f := range list {
		axioms, ds, used := []impl.Formula{f, list[(i*7+3)%len(list)]}, lists[i%len(lists)], [][]string{nil, {"sk2"}, {"sk1", "", "sk3"}}[i%3]
		ds = append(slices.Clone(ds), impl.Definition{Name: "d1", Vars: []string{"X"}, Formula: f})
		separated := separatedIfProper(f)
		first, second, third, names, room := formulaWithRoom(f), formulasWithRoom(axioms), formulaWithRoom(separated), namesWithRoom(used), definitionsWithRoom(ds)
		impl.NegationNormalForm(first)
		impl.IsNegationNormal(first)
		impl.SeparateVariables(first)
		for _, arg := range []impl.Formula{first, third} {
			impl.Skolemize(arg, names)
			impl.ClauseForm(arg)
			impl.DefineConjunctions(arg)
			impl.UnfoldDefinitions(arg, room)
			impl.ClausifyProblem(second, arg)
		}
		impl.ClausifyProblem(second[:1], first)
		if !isFormulaKept(first, f) || !areFormulasKept(second, axioms) || !isFormulaKept(third, separated) || !areNamesKept(names, used) || !areDefinitionsKept(room, ds) {
			t.Fatalf("%s, %s, %q or %s is changed", formulaText(f), formulaTextsOf(axioms), used, definitionTexts(ds))
		}
	}
}

func TestClausificationDoesNotReadBeyondTheLengths(t *testing.T) {
	list := append(normalFormulas()[:600], formulas()...)
	lists := memoryDefinitions()
	for i, f := range list {
		room := formulaWithRoom(f)
		checkNormalForm(t, room)
		checkSeparated(t, room)
		separated := formulaWithRoom(plainSeparate(f))
		checkSkolemized(t, room, namesWithRoom(nil)...)
		checkSkolemized(t, separated, namesWithRoom([]string{"sk3", ""})...)
		checkClauseForm(t, room)
		checkClauseForm(t, separated)
		checkDefined(t, room)
		checkUnfolded(t, room, definitionsWithRoom(lists[i%len(lists)]))
		checkProblem(t, formulasWithRoom([]impl.Formula{f, list[i/2]}), room)
		checkProblem(t, formulasWithRoom(nil), room)
	}
}

func TestClausificationResultsAreInNewMemory(t *testing.T) {
	// The arguments use the same memory in many places.
	one := node("g", node("f", node("X")), node("Y"))
	p, q, shared := atomic(node("p", one)), atomic(node("q", one, one)), atomic(node("p", node("V1")))
	pair := joined(impl.OpOr, p, joined(impl.OpAnd, q, p))
	strong := quantified(impl.OpExists, "V1", joined(impl.OpAnd, shared, shared))
	definitionOf := impl.Definition{Name: "p", Vars: []string{"X"}, Formula: joined(impl.OpOr, p, joined(impl.OpAnd, p, atomic(node("=", one, node("X")))))}
	list := append(clausificationFormulas(), pair, joined(impl.OpAnd, pair, pair), joined(impl.OpOr, pair, pair), strong, joined(impl.OpAnd, strong, q), negated(joined(impl.OpImplies, pair, pair)), quantified(impl.OpAll, "V2", strong))
	lists := append(memoryDefinitions(), []impl.Definition{definitionOf}, []impl.Definition{definitionOf, definitionOf}, []impl.Definition{{Name: "q", Vars: []string{"X", "Y"}, Formula: p}, definitionOf})
	for i, f := range list {
		for _, arg := range []impl.Formula{f, formulaWithRoom(f)} {
			normal, _ := impl.NegationNormalForm(arg)
			checkMemory(t, "NegationNormalForm", normal, arg)
			separated, _ := impl.SeparateVariables(arg)
			checkMemory(t, "SeparateVariables", separated, arg)
			unfolded, _ := impl.UnfoldDefinitions(arg, lists[i%len(lists)])
			checkMemory(t, "UnfoldDefinitions", unfolded, arg, lists[i%len(lists)])
			axioms := []impl.Formula{arg, arg, list[(i+5)%len(list)]}
			clauses, _ := impl.ClausifyProblem(axioms[i%3:], arg)
			checkMemory(t, "ClausifyProblem", clauses, axioms)
		}
		for _, arg := range []impl.Formula{f, separatedIfProper(f), formulaWithRoom(f)} {
			universal, _ := impl.Skolemize(arg, nil)
			checkMemory(t, "Skolemize", universal, arg)
			clauses, _ := impl.ClauseForm(arg)
			checkMemory(t, "ClauseForm", clauses, arg)
			r, defined, _ := impl.DefineConjunctions(arg)
			checkMemory(t, "DefineConjunctions", struct {
				f    impl.Formula
				list []impl.Definition
			}{r, defined}, arg)
		}
	}
}

// spoilDefinitions changes all memory of a list.
func spoilDefinitions(list []impl.Definition) {
	for i := range list {
		spoilFormula(&list[i].Formula)
		for k := range list[i].Vars {
			list[i].Vars[k] = "spoilt"
		}
		list[i] = impl.Definition{Name: "spoilt"}
	}
}

func TestClausificationCallsKeepNothing(t *testing.T) {
	f, separated, open := formula("~(p(X) => all X.some Y.q(X,Y))"), formula("(all V1.some V2.q(V1,V2) & some V3.p(V3))"), formula("((p(X) & r) | (q(X,Y) & r))")
	for range 3 {
		normal, _ := impl.NegationNormalForm(f)
		renamed, _ := impl.SeparateVariables(f)
		universal, _ := impl.Skolemize(separated, []string{"sk2"})
		clauses, _ := impl.ClauseForm(open)
		defined, list, _ := impl.DefineConjunctions(open)
		unfolded, _ := impl.UnfoldDefinitions(defined, list)
		problem, ok := impl.ClausifyProblem([]impl.Formula{separated, separated}, f)
		texts := []string{formulaText(normal), formulaText(renamed), formulaText(universal), clauseTexts(clauses), formulaText(defined), definitionTexts(list), formulaText(unfolded), clauseTexts(problem)}
		want := []string{
			"(p(X) & some X.all Y.~q(X,Y))", "~(p(X) => all V1.some V2.q(V1,V2))", "(all V1.q(V1,sk1(V1)) & p(sk3))", "p(X0) | q(X0,X1); p(X0) | r; q(X0,X1) | r; r", "(d1(X) | d2(X,Y))", "d1(X): (p(X) & r); d2(X,Y): (q(X,Y) & r)", "((p(X) & r) | (q(X,Y) & r))",
			"q(X0,sk1(X0)); p(sk2); q(X0,sk3(X0)); p(sk4); ~p(sk5) | q(X0,sk6(X0))",
		}
		if !slices.Equal(texts, want) || !ok {
			t.Fatal(texts, ok)
		}
		for _, result := range []*impl.Formula{&normal, &renamed, &universal, &defined, &unfolded} {
			spoilFormula(result)
		}
		for _, list := range [][]impl.Clause{clauses, problem} {
			for i := range list {
				spoilClause(&list[i])
			}
		}
		spoilDefinitions(list)
	}
}
