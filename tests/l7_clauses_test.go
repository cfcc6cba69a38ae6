package tests

import (
	"cmp"
	"hash/fnv"
	"maps"
	"math/rand/v2"
	"slices"
	"strconv"
	"strings"
	"testing"

	"loop.example/g00892/impl"
)

// clause is the valid clause with the given text.
func clause(s string) impl.Clause {
	c, ok := impl.ParseClause(s)
	if !ok {
		panic("no clause: " + s)
	}
	return c
}

func isEmptyClause(c impl.Clause) bool {
	return len(c.Literals) == 0
}

func cloneClause(c impl.Clause) impl.Clause {
	r := impl.Clause{}
	for _, l := range c.Literals {
		r.Literals = append(r.Literals, impl.Literal{Positive: l.Positive, Atom: clone(l.Atom)})
	}
	return r
}

// The definitions of the document, written down once more.

// plainMake keeps the first of equal literals and moves each literal to its place.
func plainMake(list []impl.Literal) (impl.Clause, bool) {
	c, ok := impl.Clause{}, true
	for _, l := range list {
		ok = ok && fitsLimits(l.Atom)
		if !slices.ContainsFunc(c.Literals, func(other impl.Literal) bool { return sameLiteral(l, other) }) {
			c.Literals = append(c.Literals, l)
		}
	}
	if !ok || len(c.Literals) > impl.MaxLiterals {
		return impl.Clause{}, false
	}
	for range c.Literals {
		for i := 1; i < len(c.Literals); i++ {
			if isLess(c.Literals[i], c.Literals[i-1]) {
				c.Literals[i], c.Literals[i-1] = c.Literals[i-1], c.Literals[i]
			}
		}
	}
	return c, true
}

func plainReplace(m map[string]impl.Term, c impl.Clause) (impl.Clause, bool) {
	list := []impl.Literal{}
	for _, l := range c.Literals {
		list = append(list, impl.Literal{Positive: l.Positive, Atom: plainApply(m, l.Atom)})
	}
	return plainMake(list)
}

// namesInOrder lists the variables of a clause in the order of their first occurrence.
func namesInOrder(c impl.Clause) []string {
	list := []string{}
	var read func(e impl.Term)
	read = func(e impl.Term) {
		if isVariable(e) && !slices.Contains(list, e.Name) {
			list = append(list, e.Name)
		}
		for _, arg := range e.Args {
			read(arg)
		}
	}
	for _, l := range c.Literals {
		read(l.Atom)
	}
	return list
}

func isPlainNormal(c impl.Clause) bool {
	for i, name := range namesInOrder(c) {
		if name != "X"+strconv.Itoa(i) {
			return false
		}
	}
	return isProperClause(c)
}

func plainRename(c impl.Clause, prefix string) impl.Clause {
	m := map[string]impl.Term{}
	for i, name := range namesInOrder(c) {
		m[name] = node(prefix + strconv.Itoa(i))
	}
	r, _ := plainReplace(m, c)
	return r
}

// plainNormalize also returns how many renamings there were.
func plainNormalize(c impl.Clause) (impl.Clause, int) {
	count := 0
	for count < 10 {
		c = plainRename(c, "X")
		count++
		if isPlainNormal(c) {
			break
		}
	}
	return c, count
}

func isPlainTautology(c impl.Clause) bool {
	for _, l := range c.Literals {
		for _, other := range c.Literals {
			if l.Positive && !other.Positive && same(l.Atom, other.Atom) {
				return true
			}
		}
		if l.Positive && l.Atom.Name == "=" && same(l.Atom.Args[0], l.Atom.Args[1]) {
			return true
		}
	}
	return false
}

// plainExtend returns the bindings with those that make the literal pattern equal to l.
func plainExtend(m map[string]impl.Term, pattern, l impl.Literal) (map[string]impl.Term, bool) {
	longer := maps.Clone(m)
	var read func(p, e impl.Term)
	read = func(p, e impl.Term) {
		if _, isBound := longer[p.Name]; isVariable(p) && !isBound {
			longer[p.Name] = e
		}
		for i := range min(len(p.Args), len(e.Args)) {
			read(p.Args[i], e.Args[i])
		}
	}
	read(pattern.Atom, l.Atom)
	return longer, pattern.Positive == l.Positive && same(plainApply(longer, pattern.Atom), l.Atom)
}

func plainCover(m map[string]impl.Term, list []impl.Literal, d impl.Clause) (map[string]impl.Term, bool) {
	if len(list) == 0 {
		return m, true
	}
	for _, l := range d.Literals {
		if longer, ok := plainExtend(m, list[0], l); ok {
			if all, ok := plainCover(longer, list[1:], d); ok {
				return all, true
			}
		}
	}
	return nil, false
}

// plainSubsumes returns the bindings that are found first, trivial ones among them.
func plainSubsumes(c, d impl.Clause) (map[string]impl.Term, bool) {
	return plainCover(map[string]impl.Term{}, c.Literals, d)
}

// areVariants reports whether different variables for the variables of c lead to the literals of d.
func areVariants(c, d impl.Clause) bool {
	var pair func(m map[string]impl.Term, list, rest []impl.Literal) bool
	pair = func(m map[string]impl.Term, list, rest []impl.Literal) bool {
		if len(list) == 0 {
			return true
		}
		for i, l := range rest {
			longer, ok := plainExtend(m, list[0], l)
			if ok && isInjective(longer) && pair(longer, list[1:], slices.Delete(slices.Clone(rest), i, i+1)) {
				return true
			}
		}
		return false
	}
	return len(c.Literals) == len(d.Literals) && pair(map[string]impl.Term{}, c.Literals, d.Literals)
}

func isInjective(m map[string]impl.Term) bool {
	images := map[string]bool{}
	for _, e := range m {
		if !isVariable(e) || images[e.Name] {
			return false
		}
		images[e.Name] = true
	}
	return true
}

// A model has the elements 0..size-1. Its number decides what each symbol means.
type model struct {
	size, number int
}

func models() []model {
	list := []model{}
	for i := range 60 {
		list = append(list, model{1 + i%3, i})
	}
	return list
}

func (m model) value(e impl.Term, assignment map[string]int) int {
	if isVariable(e) {
		return assignment[e.Name]
	}
	return int(m.meaning(e, assignment) % uint64(m.size))
}

// meaning is a number that depends on the model, the symbol at the root of e and the values of the
// arguments.
func (m model) meaning(e impl.Term, assignment map[string]int) uint64 {
	text := strconv.Itoa(m.number) + e.Name
	for _, arg := range e.Args {
		text += "," + strconv.Itoa(m.value(arg, assignment))
	}
	h := fnv.New64a()
	h.Write([]byte(text))
	// The last byte of the text hardly changes most bits of the sum.
	sum := h.Sum64()
	sum = (sum ^ sum>>33) * 0xff51afd7ed558ccd
	sum = (sum ^ sum>>33) * 0xc4ceb9fe1a85ec53
	return sum >> 33
}

func (m model) satisfies(l impl.Literal, assignment map[string]int) bool {
	if l.Atom.Name == "=" {
		return l.Positive == (m.value(l.Atom.Args[0], assignment) == m.value(l.Atom.Args[1], assignment))
	}
	// A predicate holds for about half of the arguments.
	return l.Positive == (m.meaning(node("is_"+l.Atom.Name, l.Atom.Args...), assignment)%2 == 0)
}

// isTrue reports whether the clause holds for all elements for its variables.
func (m model) isTrue(c impl.Clause) bool {
	all := namesInOrder(c)
	count := 1
	for range all {
		count *= m.size
	}
	for i := range count {
		assignment := map[string]int{}
		for _, name := range all {
			assignment[name] = i % m.size
			i /= m.size
		}
		if !slices.ContainsFunc(c.Literals, func(l impl.Literal) bool { return m.satisfies(l, assignment) }) {
			return false
		}
	}
	return true
}

// randomClause has at most the given number of literals over few symbols and the given leaves.
func randomClause(source *rand.Rand, most int, leaves ...string) impl.Clause {
	for {
		list := []impl.Literal{}
		for range source.IntN(most + 1) {
			list = append(list, literalOver(source, leaves))
		}
		if c, ok := plainMake(list); ok {
			return c
		}
	}
}

func literalOver(source *rand.Rand, leaves []string) impl.Literal {
	e := impl.Term{Name: "ppqq=rs"[source.IntN(7):][:1]}
	for range map[string]int{"p": 1, "q": 2, "=": 2, "r": 3, "s": 0}[e.Name] {
		e.Args = append(e.Args, termOver(source, 3, leaves))
	}
	return impl.Literal{Positive: source.IntN(3) > 0, Atom: e}
}

func termOver(source *rand.Rand, depth int, leaves []string) impl.Term {
	switch i := source.IntN(8); {
	case i < 6 || depth < 2:
		return node(leaves[source.IntN(len(leaves))])
	case i == 6:
		return node("f", termOver(source, depth-1, leaves))
	}
	return node("g", termOver(source, depth-1, leaves), termOver(source, depth-1, leaves))
}

// wideClauses lists valid clauses with many variables.
func wideClauses() []impl.Clause {
	list := []impl.Clause{}
	for _, count := range []int{11, 12, 13, 22, 100, 176} {
		c, rest := impl.Clause{}, nodes(names(count)...)
		if count > 90 {
			rest = nodes(longNames(count)...)
		}
		for i := 0; len(rest) > 0; i++ {
			size := min(22, len(rest))
			c.Literals = append(c.Literals, yes(leaves(rest[:size]...)))
			rest = rest[size:]
		}
		made, ok := plainMake(c.Literals)
		if !ok {
			panic("no clause of many variables")
		}
		list = append(list, made)
	}
	return list
}

// longNames lists the given number of variable names in descending order.
func longNames(count int) []string {
	list := []string{}
	for i := range count {
		list = append(list, "V"+strconv.Itoa(999-i))
	}
	return list
}

// misplacedLiterals lists Clauses of valid literals that are too many or not strictly ascending.
func misplacedLiterals() []impl.Clause {
	list := []impl.Clause{}
	for _, text := range []string{
		"r | r", "q | p", "p | ~p", "~p | ~p", "p(b) | p(a)", "p(a) | p", "p(a,a) | p(a)", "p(X) | ~p(X)", "p(a) | p(X)", "p(Y) | p(X)", "p | a = b", "b = a | a = b", "a = b | a != b",
		"p | q | r | q", "q | p | r", "p | q | q | r", "~p | p | ~p", "p(A) | p(B) | p(C) | p(D) | p(E) | p(F) | p(H) | p(G)", "p(B) | p(A) | p(C) | p(D) | p(E) | p(F) | p(G) | p(H)",
		"p(A) | p(B) | p(C) | p(D) | p(E) | p(F) | p(G) | p(G)", "p(A) | p(B) | p(C) | p(D) | p(E) | p(F) | p(G) | p(H) | p(I)",
	} {
		list = append(list, literalsOf(text))
	}
	return list
}

// invalidClauses lists Clauses that are not valid, for each reason and at each place.
func invalidClauses() []impl.Clause {
	list := append(misplacedLiterals(), impl.Clause{Literals: make([]impl.Literal, 1)}, impl.Clause{Literals: make([]impl.Literal, 8)}, impl.Clause{Literals: make([]impl.Literal, 9)}, impl.Clause{Literals: make([]impl.Literal, 1000000)})
	small, great := no(node("=", node("A"), node("A"))), yes(node("zzzzzz", node("z")))
	for _, e := range append(invalidTerms(), append(unboundedTerms(), node("X"), node("X0"), node("Zab9"))...) {
		for _, l := range []impl.Literal{no(e), yes(e)} {
			list = append(list, clauseOf(l), clauseOf(l, great), clauseOf(small, l), clauseOf(small, l, great), clauseOf(l, l))
		}
	}
	return list
}

func TestClauseExamples(t *testing.T) {
	x, y, z, a := node("X"), node("Y"), node("Z"), node("a")
	c := clauseOf(yes(node("p", z)), yes(node("q", y, z)))
	want := clauseOf(yes(node("p", node("X0"))), yes(node("q", node("X1"), node("X0"))))
	if n, ok := impl.NormalizeClause(c); !sameClause(n, want) || !ok {
		t.Errorf("p(Z) | q(Y,Z) becomes %v, %v", n, ok)
	}
	c, d := clauseOf(yes(node("p", x)), yes(node("p", y))), clauseOf(yes(node("p", a)), yes(node("q", a, a)))
	if s, ok := impl.Subsumes(c, d); !sameSub(s, subOf(bind("X", a), bind("Y", a))) || !ok {
		t.Errorf("p(X) | p(Y) subsumes p(a) | q(a,a) with %v, %v", s, ok)
	}
}

func TestLimitOfLiteralsOfClauses(t *testing.T) {
	if impl.MaxLiterals != 8 {
		t.Error(impl.MaxLiterals)
	}
	all := ascendingLiterals()
	for count := range 40 {
		c, fits := clauseOf(all[:count]...), count <= 8
		if impl.IsValidClause(c) != fits {
			t.Errorf("a clause of %d literals is valid: %v", count, !fits)
		}
		if made, ok := impl.MakeClause(c.Literals); ok != fits || ok && !sameClause(made, c) || !ok && !isEmptyClause(made) {
			t.Errorf("MakeClause of %d literals: %v, %v", count, made, ok)
		}
	}
}

func TestValidLiterals(t *testing.T) {
	for _, l := range append(literals(), ascendingLiterals()...) {
		if !impl.IsValidLiteral(l) || !impl.IsValidClause(clauseOf(l)) {
			t.Errorf("%s is invalid", literalText(l))
		}
	}
	if impl.IsValidLiteral(impl.Literal{}) || impl.IsValidLiteral(impl.Literal{Positive: true}) {
		t.Error("a literal without an atom is valid")
	}
	for _, e := range append(invalidTerms(), append(unboundedTerms(), node("X"), node("X0"), node("Zab9"))...) {
		for _, l := range []impl.Literal{no(e), yes(e)} {
			if impl.IsValidLiteral(l) || impl.IsValidClause(clauseOf(l)) {
				t.Errorf("a literal of %q is valid", e.Name)
			}
			for _, other := range []impl.Literal{literal("a"), literal("X = a"), l} {
				for _, pair := range [][2]impl.Literal{{l, other}, {other, l}} {
					if order, ok := impl.CompareLiterals(pair[0], pair[1]); order != 0 || ok {
						t.Errorf("CompareLiterals with %q: %d, %v", e.Name, order, ok)
					}
				}
			}
		}
	}
}

func TestValidClauses(t *testing.T) {
	for _, c := range append(clauses(), wideClauses()...) {
		if !impl.IsValidClause(c) {
			t.Errorf("%s is invalid", clauseText(c))
		}
	}
	for i, c := range invalidClauses() {
		if impl.IsValidClause(c) {
			t.Errorf("%d: a clause of %d literals is valid", i, len(c.Literals))
		}
	}
}

func TestLiteralsOfClausesAreStrictlyAscending(t *testing.T) {
	all := ascendingLiterals()
	for i, a := range all {
		for j, b := range all {
			if impl.IsValidClause(clauseOf(a, b)) != (i < j) {
				t.Errorf("%s | %s", literalText(a), literalText(b))
			}
			k := (i*7 + j*3) % len(all)
			if impl.IsValidClause(clauseOf(a, b, all[k])) != (i < j && j < k) {
				t.Errorf("%s | %s | %s", literalText(a), literalText(b), literalText(all[k]))
			}
		}
	}
	for from := 0; from+impl.MaxLiterals <= len(all); from++ {
		for i := range impl.MaxLiterals {
			for j := range impl.MaxLiterals {
				swapped, doubled := slices.Clone(all[from:][:impl.MaxLiterals]), slices.Clone(all[from:][:impl.MaxLiterals])
				swapped[i], swapped[j] = swapped[j], swapped[i]
				doubled[i] = doubled[j]
				if impl.IsValidClause(clauseOf(swapped...)) != (i == j) || impl.IsValidClause(clauseOf(doubled...)) != (i == j) {
					t.Errorf("the literals %d and %d from %d", i, j, from)
				}
			}
		}
	}
}

func TestCompareLiterals(t *testing.T) {
	for _, c := range []struct {
		a, b string
		want int
	}{
		{"p", "p", 0}, {"~p", "~p", 0}, {"~p", "p", -1}, {"p", "~p", 1}, {"p", "q", -1}, {"p", "~q", -1}, {"~p", "q", -1}, {"~p", "~q", -1}, {"q", "~p", 1},
		{"p(X)", "p(Y)", -1}, {"p(X)", "~p(Y)", -1}, {"p(a)", "~p(X)", 1}, {"p(b)", "~p(a,a)", -1}, {"p", "~p(X)", -1}, {"a = b", "a != b", 1}, {"a = b", "b != a", -1}, {"X = Y", "a", -1}, {"a", "X != Y", 1}, {"X = Y", "X = Y", 0},
	} {
		if order, ok := impl.CompareLiterals(literal(c.a), literal(c.b)); order != c.want || !ok {
			t.Errorf("CompareLiterals of %s and %s is %d, %v", c.a, c.b, order, ok)
		}
	}
	all := ascendingLiterals()
	for i, a := range all {
		for j, b := range all {
			if order, ok := impl.CompareLiterals(a, b); order != cmp.Compare(i, j) || !ok {
				t.Errorf("CompareLiterals of %s and %s is %d, %v", literalText(a), literalText(b), order, ok)
			}
		}
	}
}

func TestComparisonOfLiteralsFollowsTheDefinition(t *testing.T) {
	list := append(literals(), smallLiterals()...)
	for _, a := range list {
		for _, b := range list {
			want := 0
			if isLess(a, b) {
				want = -1
			} else if isLess(b, a) {
				want = 1
			}
			if order, ok := impl.CompareLiterals(a, b); order != want || !ok || (order == 0) != sameLiteral(a, b) {
				t.Fatalf("CompareLiterals of %s and %s is %d, %v", literalText(a), literalText(b), order, ok)
			}
		}
	}
}

func TestMakeClause(t *testing.T) {
	for _, c := range [][2]string{
		{"", "$false"}, {"r", "r"}, {"~r", "~r"}, {"r | r", "r"}, {"r | ~r", "~r | r"}, {"r | ~r | r", "~r | r"}, {"~r | r | ~r | r", "~r | r"}, {"q(X,a) | ~p(X)", "~p(X) | q(X,a)"}, {"p(b) | p(a)", "p(a) | p(b)"},
		{"p(a,a) | p(b) | p", "p | p(b) | p(a,a)"}, {"p(a) | p(X) | p(f(X))", "p(X) | p(a) | p(f(X))"}, {"r | b = a | a = b | a != b", "a != b | a = b | b = a | r"}, {"b = a | a = b | b = a", "a = b | b = a"},
		{"c | b | a | c | b | a", "a | b | c"}, {"h | g | f | e | d | c | b | a", "a | b | c | d | e | f | g | h"}, {"h | g | f | e | d | c | b | a | a | b | c | d | e | f | g | h", "a | b | c | d | e | f | g | h"},
		{"p(X) | ~p(X) | p(Y) | ~p(Y) | p(X)", "~p(X) | p(X) | ~p(Y) | p(Y)"},
	} {
		if made, ok := impl.MakeClause(literalsOf(c[0]).Literals); clauseText(made) != c[1] || !ok {
			t.Errorf("MakeClause of %s is %s, %v", c[0], clauseText(made), ok)
		}
	}
	for _, list := range [][]impl.Literal{nil, {}} {
		if made, ok := impl.MakeClause(list); !isEmptyClause(made) || !ok {
			t.Errorf("MakeClause of no literal is %v, %v", made, ok)
		}
	}
}

func TestMakeClauseOfManyLiterals(t *testing.T) {
	all := ascendingLiterals()
	source := rand.New(rand.NewPCG(7, 1))
	for count := range 14 {
		for _, length := range []int{count, 2 * count, 100, 3000} {
			list, from := []impl.Literal{}, source.IntN(len(all)-count)
			for i := range max(count, length) {
				if count > 0 {
					list = append(list, all[from+i%count])
				}
			}
			source.Shuffle(len(list), func(i, j int) { list[i], list[j] = list[j], list[i] })
			made, ok := impl.MakeClause(list)
			if fits := count <= impl.MaxLiterals; ok != fits || ok && !sameClause(made, clauseOf(all[from:from+count]...)) || !ok && !isEmptyClause(made) {
				t.Errorf("MakeClause of %d literals, %d different ones, is %s, %v", len(list), count, clauseText(made), ok)
			}
		}
	}
}

func TestMakeClauseFollowsTheDefinition(t *testing.T) {
	source, shorter, failures := rand.New(rand.NewPCG(7, 2)), 0, 0
	for range 20000 {
		list := []impl.Literal{}
		for range source.IntN(14) {
			list = append(list, literalOver(source, []string{"X", "Y", "a"}))
		}
		want, fits := plainMake(list)
		made, ok := impl.MakeClause(list)
		if ok != fits || !sameClause(made, want) || !isProperClause(made) || !impl.IsValidClause(made) {
			t.Fatalf("MakeClause of %s is %s, %v", clauseText(clauseOf(list...)), clauseText(made), ok)
		}
		if ok && len(made.Literals) < len(list) {
			shorter++
		}
		if !ok {
			failures++
		}
	}
	if shorter < 2000 || failures < 2000 {
		t.Error("only", shorter, "shorter clauses and", failures, "failures")
	}
}

func TestMakeClauseOfInvalidLiterals(t *testing.T) {
	for _, e := range append(invalidTerms(), append(unboundedTerms(), node("X"), node("X0"))...) {
		for _, count := range []int{1, 2, impl.MaxLiterals, 9, 20} {
			for _, at := range []int{0, count / 2, count - 1} {
				for _, l := range []impl.Literal{no(e), yes(e)} {
					equal := slices.Repeat([]impl.Literal{literal("a")}, count)
					equal[at] = l
					different := slices.Clone(ascendingLiterals()[:count])
					different[at] = l
					for _, list := range [][]impl.Literal{equal, different} {
						if made, ok := impl.MakeClause(list); !isEmptyClause(made) || ok {
							t.Errorf("MakeClause with %q: %v, %v", e.Name, made, ok)
						}
					}
				}
			}
		}
	}
}

// A renamedClause becomes normal after the given number of renamings, or does not (0).
type renamedClause struct {
	text  string
	count int
}

func renamedClauses() []renamedClause {
	return []renamedClause{
		{"$false", 1}, {"r", 1}, {"p(a) | q(a,b)", 1}, {"p(X0)", 1}, {"q(X0,X1)", 1}, {"q(X0,X0) | q(X0,X1)", 1}, {"p(X)", 1}, {"p(X1)", 1}, {"q(X1,X0)", 1}, {"p(Y0)", 1}, {"p(X0) | q(X1,X0)", 1}, {"p(Z) | q(Y,Z)", 1},
		{"r(X3,X1,a) | r(X3,X3,X4)", 2}, {"p(X4) | q(X1,X4) | q(X2,X0) | q(X4,X2)", 3}, {"p(X10) | p(a) | p(f(X8)) | q(X1,X7) | q(X3,X13) | q(X6,g(X3,X12)) | q(X8,g(X6,X10))", 4},
		{"p(X11) | p(a) | q(X1,X5) | r(X10,g(X2,a),X13) | r(X11,X12,X0) | r(X8,X3,X10) | r(X9,X12,X4)", 5}, {"p(X7) | q(X0,X0) | q(X1,g(X8,X2)) | q(X11,X12) | q(X12,X5) | q(X13,X5) | q(X3,X5) | q(X9,f(a))", 6},
		{"p(X1) | q(X7,X7) | q(g(X2,X6),a) | r(X10,a,X11) | r(X12,X10,X8) | r(X3,X5,X6) | r(X9,X6,X4)", 7}, {"p(g(X11,X9)) | r(X10,X12,X9) | r(X12,X5,X4) | r(X2,X10,X6) | r(X3,X0,X11) | r(X6,X0,X6) | r(X7,X13,X13) | r(g(X3,X2),a,a)", 8},
		{"p(X1) | q(f(X7),X11) | q(g(X0,X2),X11) | r(X11,X8,X13) | r(X3,X12,X1) | r(X6,X8,X2) | r(X8,X10,X4) | r(X8,X6,X3)", 9},
		{"q(X10,X8) | r(X1,X7,X0) | r(X11,X3,X11) | r(X12,X1,X1) | r(X13,g(X4,X8),a) | r(X3,a,X2) | r(X7,X6,X12) | r(g(X4,X7),g(X9,X0),f(X4))", 10},
		// Renaming and sorting leave these as they are, or lead through the same 2 to 10 clauses again and again.
		{"p(X12) | p(f(X13)) | p(f(X4)) | q(X11,X8) | q(X12,X9) | q(X2,X7) | q(X3,X5) | q(X6,X10)", 0}, {"p(X11) | p(X5) | q(X6,X6) | q(X7,X1) | q(X8,X1) | r(X12,X5,X4) | r(X3,X5,X4) | r(X6,X13,f(X9))", 0},
		{"p(X1) | p(X12) | q(X4,X3) | q(X7,X10) | q(X9,g(X5,X2)) | r(X3,X13,a) | r(X3,X8,f(a))", 0}, {"p(X0) | p(X5) | p(f(X1)) | q(X1,X11) | q(X4,X12) | r(X10,X1,X8) | r(X2,X13,X5) | r(X3,X11,X9)", 0},
		{"p(X2) | p(X3) | p(X4) | q(X11,X4) | r(X10,X6,X6) | r(X5,X7,X13) | r(X8,g(X1,X3),a) | r(X9,a,X7)", 0}, {"p(X2) | q(X0,X9) | q(X10,X6) | q(X11,X12) | q(X13,X5) | q(X5,X8) | q(X7,X4) | r(X4,X1,g(X13,X6))", 0},
		{"p(X0) | p(X1) | q(f(X12),X5) | r(X0,a,f(X2)) | r(X13,X13,g(X9,a)) | r(X3,X7,X8) | r(X6,X0,X7) | r(X9,f(X13),X8)", 0}, {"p(a) | p(g(X2,a)) | q(X9,f(X1)) | r(X0,X13,X0) | r(X1,X8,g(X3,X2)) | r(X12,X5,g(X10,X2)) | r(X5,X12,g(X11,X5)) | r(X7,X11,g(a,X11))", 0},
		{"p(X2) | q(X0,X5) | q(X6,X9) | r(X10,g(a,X1),X13) | r(X12,f(X6),a) | r(X13,g(X5,X11),X10) | r(X3,X7,X5) | r(f(X7),X5,X8)", 0}, {"p(X1) | p(g(X6,X3)) | r(X0,X1,X9) | r(X2,g(X11,X13),f(X13)) | r(X4,g(X4,X8),X5) | r(X8,X7,f(X0)) | r(X9,X10,X4) | r(g(X7,a),X13,f(a))", 0},
	}
}

func TestNormalizeClause(t *testing.T) {
	for _, c := range [][2]string{
		{"$false", "$false"}, {"r", "r"}, {"~r | r", "~r | r"}, {"p(a) | q(a,b)", "p(a) | q(a,b)"}, {"p(X0)", "p(X0)"}, {"p(X)", "p(X0)"}, {"p(X1)", "p(X0)"}, {"~p(Zab9)", "~p(X0)"}, {"q(X1,X0)", "q(X0,X1)"}, {"q(Y,X)", "q(X0,X1)"}, {"q(X,X)", "q(X0,X0)"},
		{"X = Y", "X0 = X1"}, {"Y != X", "X0 != X1"}, {"f(X) = X", "f(X0) = X0"}, {"p(X) | p(Y)", "p(X0) | p(X1)"}, {"~p(Y) | p(Y)", "~p(X0) | p(X0)"}, {"p(Y) | ~p(Z)", "p(X0) | ~p(X1)"}, {"r(Y,f(X),g(Z,Y))", "r(X0,f(X1),g(X2,X0))"},
		{"p(Z) | q(Y,Z)", "p(X0) | q(X1,X0)"}, {"p(X1) | q(X0,X1)", "p(X0) | q(X1,X0)"}, {"q(Y,Z) | s(Y)", "q(X0,X1) | s(X0)"},
		// The order changes with the names.
		{"p(Y) | p(f(X)) | q(X,a)", "p(X0) | p(f(X1)) | q(X1,a)"}, {"r(X3,X1,a) | r(X3,X3,X4)", "r(X0,X0,X1) | r(X0,X2,a)"}, {"q(X,Z) | q(Y,X)", "q(X0,X1) | q(X2,X0)"}, {"q(A,C) | q(B,A)", "q(X0,X1) | q(X2,X0)"}, {"p(f(B)) | q(B,C) | q(C,A)", "p(f(X0)) | q(X0,X1) | q(X1,X2)"},
		{"p(f(Z)) | q(X,Z) | q(Z,Y)", "p(f(X0)) | q(X0,X1) | q(X2,X0)"}, {"q(X4,X2) | s(X0) | s(X1)", "q(X0,X1) | s(X2) | s(X3)"}, {"p(C) | q(A,B) | q(C,A)", "p(X0) | q(X0,X1) | q(X1,X2)"},
	} {
		if n, ok := impl.NormalizeClause(clause(c[0])); clauseText(n) != c[1] || !ok {
			t.Errorf("%s becomes %s, %v", c[0], clauseText(n), ok)
		}
	}
}

// checkNormalized tests one result against the definition and the guarantees.
func checkNormalized(t *testing.T, c impl.Clause) impl.Clause {
	t.Helper()
	want, _ := plainNormalize(c)
	n, ok := impl.NormalizeClause(c)
	if !sameClause(n, want) || !ok || !impl.IsValidClause(n) {
		t.Fatalf("%s becomes %s, %v instead of %s", clauseText(c), clauseText(n), ok, clauseText(want))
	}
	if !areVariants(c, n) {
		t.Fatalf("%s is no variant of %s", clauseText(n), clauseText(c))
	}
	if again, ok := impl.NormalizeClause(n); isPlainNormal(n) && !sameClause(again, n) || !ok {
		t.Fatalf("%s becomes %s and then %s, %v", clauseText(c), clauseText(n), clauseText(again), ok)
	}
	return n
}

func TestNumbersOfRenamings(t *testing.T) {
	for _, c := range renamedClauses() {
		want, count := plainNormalize(clause(c.text))
		n := checkNormalized(t, clause(c.text))
		if becomesNormal := c.count > 0; becomesNormal != isPlainNormal(want) || becomesNormal && count != c.count {
			t.Errorf("%s becomes %s after %d renamings", c.text, clauseText(want), count)
		}
		// What has not become normal goes on to change, or will never change.
		if again, ok := impl.NormalizeClause(n); c.count > 0 && !sameClause(again, n) || !ok {
			t.Errorf("%s becomes %s and then %s, %v", c.text, clauseText(n), clauseText(again), ok)
		}
	}
}

func TestNormalizedClausesAreVariants(t *testing.T) {
	for _, c := range append(clauses(), wideClauses()...) {
		checkNormalized(t, c)
	}
	source, counts := rand.New(rand.NewPCG(7, 3)), [12]int{}
	for i := range 20000 {
		c := randomClause(source, 5, "X", "Y", "Z", "X0", "X1", "a")
		for i%4 == 0 && len(c.Literals) < 6 {
			c = randomClause(source, impl.MaxLiterals, "X0", "X1", "X2", "X3", "X4", "X5", "X6", "X7", "X8", "X9", "X10", "X11", "X12", "X13")
		}
		_, count := plainNormalize(c)
		if !isPlainNormal(checkNormalized(t, c)) {
			count = 11
		}
		counts[count]++
	}
	if slices.Min(counts[1:4]) < 20 || counts[11] < 20 {
		t.Error("the numbers of renamings are", counts)
	}
}

func TestNormalizedClausesAreEquivalent(t *testing.T) {
	source := rand.New(rand.NewPCG(7, 4))
	for range 1000 {
		c := randomClause(source, 3, "X", "Y", "Z", "a", "b")
		n, _ := impl.NormalizeClause(c)
		apart, _ := impl.RenameApart(n)
		for _, m := range models() {
			if m.isTrue(c) != m.isTrue(n) || m.isTrue(c) != m.isTrue(apart) {
				t.Fatalf("%s, %s and %s differ in the model %v", clauseText(c), clauseText(n), clauseText(apart), m)
			}
		}
	}
}

func TestIsTautology(t *testing.T) {
	for text, want := range map[string]bool{
		"": false, "r": false, "~r": false, "p(a) | ~p(b)": false, "p | ~p(a)": false, "p(X) | ~p(Y)": false, "~p(X) | q(X)": false, "~p(a) | p(b) | q(a)": false, "p(a) | ~q(a)": false,
		"~r | r": true, "~p(X) | p(X)": true, "p(X) | ~p(f(X)) | p(f(X))": true, "~p(X) | p(X) | p(Y)": true, "~q(a) | q(a) | r": true, "a = b | ~q(a) | q(a)": true, "p | q | ~r | r": true, "a | b | c | d | e | f | ~g | g": true, "~a | a | b | c | d | e | f | g": true,
		"a = a": true, "X = X": true, "f(X,a) = f(X,a)": true, "p | q | r": false, "a = a | p": true, "a = b | a = a | p": true, "X = Y | f(X) = f(X) | r": true,
		"a != a": false, "X != X": false, "f(a) != f(a) | r": false, "a != a | b != b": false, "a != a | a = a": true,
		"a = b": false, "X = Y": false, "a = b | b = a": false, "a = b | b != a": false, "a != b | b = a": false, "a != b | b != a": false, "a != b | a = b": true, "a = b | b != a | b = a": true, "f(X) = f(Y)": false, "X = f(X)": false,
		"p(a,a)": false, "p(X,X) | q(X,X)": false,
	} {
		c, fine := plainMake(literalsOf(text).Literals)
		if yes, ok := impl.IsTautology(c); yes != want || !ok || !fine {
			t.Errorf("IsTautology of %s is %v, %v", text, yes, ok)
		}
	}
	for i, a := range smallLiterals() {
		for j, b := range smallLiterals() {
			c, _ := plainMake([]impl.Literal{a, b, literalsOf("~p(X) | r | q(a)").Literals[(i+j)%3]})
			if yes, ok := impl.IsTautology(c); yes != isPlainTautology(c) || !ok {
				t.Fatalf("IsTautology of %s is %v, %v", clauseText(c), yes, ok)
			}
		}
	}
}

func TestTautologiesAreTrue(t *testing.T) {
	source, count := rand.New(rand.NewPCG(7, 5)), 0
	for range 20000 {
		c := randomClause(source, impl.MaxLiterals, "X", "Y", "a", "b")
		yes, ok := impl.IsTautology(c)
		if yes != isPlainTautology(c) || !ok {
			t.Fatalf("IsTautology of %s is %v, %v", clauseText(c), yes, ok)
		}
		if !yes || count == 300 {
			continue
		}
		count++
		for _, m := range models() {
			if !m.isTrue(c) {
				t.Fatalf("%s is false in the model %v", clauseText(c), m)
			}
		}
	}
	if count < 300 {
		t.Error("only", count, "tautologies")
	}
}

// checkApplied tests one application to a clause against the definition.
func checkApplied(t *testing.T, s impl.Substitution, c impl.Clause) impl.Clause {
	t.Helper()
	want, fits := plainReplace(mapOf(s), c)
	r, ok := impl.ApplyToClause(s, c)
	if ok != fits || !sameClause(r, want) || !impl.IsValidClause(r) || !isProperClause(r) {
		t.Fatalf("applying {%s} to %s gives %s, %v", subText(s), clauseText(c), clauseText(r), ok)
	}
	return r
}

func TestApplyToClause(t *testing.T) {
	for _, c := range [][3]string{
		{"", "$false", "$false"}, {"X:=a", "$false", "$false"}, {"", "p(X) | q(X,Y)", "p(X) | q(X,Y)"}, {"Z:=a", "p(X) | ~q(X,Y)", "p(X) | ~q(X,Y)"}, {"X:=a", "r", "r"},
		{"X:=a", "p(X)", "p(a)"}, {"X:=a", "~p(X) | p(X)", "~p(a) | p(a)"}, {"X:=f(Y);Y:=a", "p(X) | q(X,Y)", "p(f(Y)) | q(f(Y),a)"}, {"X:=a", "X = Y | X != f(X)", "a = Y | a != f(a)"},
		// The order changes.
		{"X:=b;Y:=a", "p(X) | p(Y)", "p(a) | p(b)"}, {"X:=Y;Y:=X", "p(X) | ~p(Y)", "~p(X) | p(Y)"}, {"X:=f(X)", "p(X) | p(a)", "p(a) | p(f(X))"}, {"A:=f(A);B:=a", "~p(A) | p(B) | p(C)", "p(C) | p(a) | ~p(f(A))"}, {"X:=Z", "X = Y | Y = a", "Y = a | Z = Y"},
		// Literals become equal.
		{"X:=Y", "p(X) | p(Y)", "p(Y)"}, {"X:=a;Y:=a", "p(X) | p(Y)", "p(a)"}, {"X:=a", "p(X) | p(a)", "p(a)"}, {"X:=a", "~p(X) | p(X) | ~p(a) | p(a)", "~p(a) | p(a)"}, {"X:=a", "~p(X) | p(a)", "~p(a) | p(a)"}, {"X:=Y", "q(X,X) | q(X,Y) | q(Y,X) | q(Y,Y)", "q(Y,Y)"}, {"X:=Y", "X = Y | Y = X", "Y = Y"}, {"X:=Y", "X != Y | Y = X", "Y != Y | Y = Y"},
		{"A:=Z;B:=Z;C:=Z;D:=Z;E:=Z;F:=Z;G:=Z", "p(A) | p(B) | p(C) | p(D) | p(E) | p(F) | p(G) | p(Z)", "p(Z)"}, {"A:=Z;C:=Z;E:=Z;G:=Z", "p(A) | p(B) | p(C) | p(D) | p(E) | p(F) | p(G) | p(Z)", "p(B) | p(D) | p(F) | p(Z)"}, {"A:=H;B:=G;C:=F;D:=E;E:=D;F:=C;G:=B;H:=A", "p(A) | p(B) | p(C) | p(D) | ~p(E) | ~p(F) | p(G) | p(H)", "p(A) | p(B) | ~p(C) | ~p(D) | p(E) | p(F) | p(G) | p(H)"},
	} {
		if r, ok := impl.ApplyToClause(sub(c[0]), clause(c[1])); clauseText(r) != c[2] || !ok {
			t.Errorf("applying {%s} to %s gives %s, %v", c[0], c[1], clauseText(r), ok)
		}
	}
}

func TestApplicationToClausesFollowsTheDefinition(t *testing.T) {
	for _, s := range substitutions() {
		for _, c := range append(clauses(), wideClauses()...) {
			checkApplied(t, s, c)
		}
	}
	source, shorter, failures := rand.New(rand.NewPCG(7, 6)), 0, 0
	for range 20000 {
		s, c := impl.Substitution{}, randomClause(source, impl.MaxLiterals, "X", "Y", "Z", "X", "Y", "a")
		for _, name := range []string{"X", "Y", "Z"} {
			e := termOver(source, 4, []string{"X", "Y", "Z", "a"})
			if source.IntN(6) == 0 {
				e = chain(3+source.IntN(6), node("X"))
			}
			if source.IntN(3) > 0 && e.Name != name {
				s.Bindings = append(s.Bindings, bind(name, e))
			}
		}
		r := checkApplied(t, s, c)
		if isEmptyClause(r) && !isEmptyClause(c) {
			failures++
		} else if len(r.Literals) < len(c.Literals) {
			shorter++
		}
	}
	if shorter < 300 || failures < 300 {
		t.Error("only", shorter, "shorter clauses and", failures, "failures")
	}
}

func TestLimitsOfApplicationToClauses(t *testing.T) {
	others := literalsOf("A = A | ~aa(Y) | aa(Y) | ab(Y) | z(Y) | za(Y) | za(Z)").Literals
	for _, c := range []struct {
		atom, value impl.Term
		fits        bool
	}{
		{chain(2, node("X")), chain(7, node("a")), true}, {chain(2, node("X")), chain(8, node("a")), false}, {chain(8, node("X")), node("a"), true}, {chain(8, node("X")), chain(2, node("a")), false}, {chain(7, node("X")), chain(2, node("Y")), true}, {chain(7, node("X")), chain(3, node("Y")), false},
		{node("f", node("X")), bush(29), true}, {node("f", node("X")), bush(30), false}, {node("f", node("X"), node("X")), bush(14), true}, {node("f", node("X"), node("X")), bush(15), false}, {node("=", node("Y"), node("X")), bush(28), true}, {node("=", node("Y"), node("X")), bush(29), false},
		{node("=", node("X"), node("X")), bush(14), true}, {node("=", node("X"), node("X")), bush(15), false}, {node("=", node("X"), node("a")), chain(7, node("X")), true}, {node("=", node("X"), node("a")), chain(8, node("X")), false}, {node("=", node("X"), node("a")), node("=", node("a"), node("a")), false}, {node("f", node("X")), node("=", node("a"), node("a")), false},
	} {
		s := subOf(bind("X", c.value))
		for count := range len(others) + 1 {
			for _, l := range []impl.Literal{yes(c.atom), no(c.atom)} {
				made, _ := plainMake(append(slices.Clone(others[:count]), l))
				r, ok := impl.ApplyToClause(s, made)
				if ok != c.fits || ok && len(r.Literals) != count+1 || !ok && !isEmptyClause(r) {
					t.Errorf("applying {%s} to %s gives %s, %v", subText(s), clauseText(made), clauseText(r), ok)
				}
			}
		}
	}
	// Literals that would become equal, but too great.
	if r, ok := impl.ApplyToClause(sub("X:=f(f(a));Y:=f(f(a))"), clauseOf(yes(chain(7, node("X"))), yes(chain(7, node("Y"))))); !isEmptyClause(r) || ok {
		t.Error(clauseText(r), ok)
	}
}

// checkSubsumed tests one subsumption against the definition and the guarantee.
func checkSubsumed(t *testing.T, c, d impl.Clause) (impl.Substitution, bool) {
	t.Helper()
	m, exists := plainSubsumes(c, d)
	want, fits := fromMap(m)
	s, ok := impl.Subsumes(c, d)
	if ok != (exists && fits) || ok && (!sameSub(s, want) || !impl.IsValidSubstitution(s)) || !ok && !isEmptySub(s) {
		t.Fatalf("Subsumes of %s and %s is {%s}, %v instead of {%s}, %v", clauseText(c), clauseText(d), subText(s), ok, subText(want), exists && fits)
	}
	if !ok {
		return s, false
	}
	r, fine := impl.ApplyToClause(s, c)
	for _, l := range r.Literals {
		if !slices.ContainsFunc(d.Literals, func(other impl.Literal) bool { return sameLiteral(l, other) }) {
			t.Fatalf("%s is no literal of %s", literalText(l), clauseText(d))
		}
	}
	if !fine || isEmptyClause(r) && !isEmptyClause(c) {
		t.Fatalf("applying {%s} to %s gives %s, %v", subText(s), clauseText(c), clauseText(r), fine)
	}
	for _, b := range s.Bindings {
		if !slices.Contains(namesInOrder(c), b.Var) {
			t.Fatalf("%s is bound, but not in %s", b.Var, clauseText(c))
		}
	}
	return s, true
}

func TestSubsumes(t *testing.T) {
	for _, c := range [][3]string{
		// The clause itself, variants, instances and clauses with more literals.
		{"$false", "$false", ""}, {"$false", "r", ""}, {"$false", "p(X) | q(a)", ""}, {"r", "r", ""}, {"~r", "~r", ""}, {"p(X) | q(X,Y)", "p(X) | q(X,Y)", ""}, {"X = Y", "X = Y", ""}, {"p(X)", "p(Y)", "X:=Y"}, {"p(X) | q(X,Y)", "p(Z) | q(Z,W)", "X:=Z;Y:=W"}, {"q(X,Y)", "q(X,Z)", "Y:=Z"},
		{"p(X)", "p(a)", "X:=a"}, {"p(X)", "p(f(Y))", "X:=f(Y)"}, {"p(f(X))", "p(f(g(a,b)))", "X:=g(a,b)"}, {"X = Y", "a = f(Z)", "X:=a;Y:=f(Z)"}, {"X != f(X)", "a != f(a)", "X:=a"}, {"p(X)", "p(a) | q(a)", "X:=a"}, {"q(X)", "p(a) | q(b) | r", "X:=b"}, {"p | r", "p | q | r", ""}, {"~p(X) | q(X)", "~p(a) | p(a) | ~q(a) | q(a)", "X:=a"},
		// Literals become equal.
		{"p(X) | p(Y)", "p(a) | q(a,a)", "X:=a;Y:=a"}, {"p(X) | p(Y)", "p(a)", "X:=a;Y:=a"}, {"p(X) | p(Y)", "p(X)", "Y:=X"}, {"p(X) | p(Y)", "p(Y)", "X:=Y"}, {"q(X,Y) | q(Y,X)", "q(a,a)", "X:=a;Y:=a"}, {"p(A) | p(B) | p(C) | p(D) | p(E) | p(F) | p(G) | p(H)", "p(H)", "A:=H;B:=H;C:=H;D:=H;E:=H;F:=H;G:=H"}, {"p(X) | p(a)", "p(a)", "X:=a"},
		// The first of several.
		{"p(X)", "p(a) | p(b) | p(c)", "X:=a"}, {"p(X) | p(Y)", "p(a) | p(b)", "X:=a;Y:=a"}, {"p(Y)", "p(X) | p(Y)", "Y:=X"}, {"q(X,Y)", "q(X,Z) | q(Y,X)", "Y:=Z"}, {"p(X) | q(Y)", "p(a) | p(b) | q(a) | q(b)", "X:=a;Y:=a"}, {"p(X) | q(X)", "p(a) | p(b) | q(a) | q(b)", "X:=a"}, {"~p(X)", "p(a) | ~p(b) | p(b) | ~p(c)", "X:=b"},
		// Backtracking.
		{"p(X) | q(X)", "p(a) | p(b) | q(b)", "X:=b"}, {"p(X) | p(Y) | q(X,Y)", "p(a) | p(b) | q(b,a)", "X:=b;Y:=a"}, {"p(X) | p(Y) | q(X,Y)", "p(a) | p(b) | q(a,b)", "X:=a;Y:=b"}, {"p(X) | q(X,Y) | r(Y)", "p(a) | p(b) | q(a,a) | q(b,a) | q(b,b) | r(b)", "X:=b;Y:=b"}, {"q(X,Y) | q(Y,Z) | q(Z,X)", "q(a,a) | q(a,b)", "X:=a;Y:=a;Z:=a"}, {"q(X,Y) | q(Y,Z)", "q(a,b) | q(b,c)", "X:=a;Y:=b;Z:=c"}, {"q(X,Y) | q(Y,Z) | r(Z)", "q(a,b) | q(a,c) | q(b,d) | q(c,e) | r(e)", "X:=a;Y:=c;Z:=e"},
		{"p(X) | p(Y) | p(Z) | q(X,Y) | q(Y,Z) | r(Z)", "p(a) | p(b) | p(c) | q(b,c) | q(c,a) | r(a)", "X:=b;Y:=c;Z:=a"}, {"p(X) | q(X)", "p(X) | p(Y) | q(Y)", "X:=Y"}, {"p(X) | p(f(X))", "p(a) | p(b) | p(f(b))", "X:=b"}, {"X = Y | p(Y)", "a = b | b = a | p(a)", "X:=b;Y:=a"},
		// Variables that occur in both.
		{"q(X,Y)", "q(Y,X)", "X:=Y;Y:=X"}, {"p(X)", "p(f(X))", "X:=f(X)"}, {"q(X,Y)", "q(f(Y),f(X))", "X:=f(Y);Y:=f(X)"}, {"r(X,Y,Z)", "r(Y,Z,X)", "X:=Y;Y:=Z;Z:=X"}, {"r(X,Y,Z)", "r(X,Z,Y)", "Y:=Z;Z:=Y"}, {"p(X) | q(X,Y)", "p(Y) | q(Y,f(X))", "X:=Y;Y:=f(X)"}, {"q(X,X)", "q(Y,Y)", "X:=Y"}, {"q(X,X)", "q(X,X)", ""}, {"p(X) | q(Y)", "p(X) | p(Y) | q(X) | q(Y)", "Y:=X"}, {"p(Y) | q(X)", "p(X) | q(X)", "Y:=X"},
	} {
		if s, ok := checkSubsumed(t, clause(c[0]), clause(c[1])); subText(s) != c[2] || !ok {
			t.Errorf("Subsumes of %s and %s is {%s}, %v", c[0], c[1], subText(s), ok)
		}
	}
}

func TestSubsumesFails(t *testing.T) {
	for _, c := range [][2]string{
		{"r", "$false"}, {"p(X)", "$false"}, {"r", "~r"}, {"~r", "r"}, {"p(X)", "~p(a)"}, {"~p(X)", "p(a)"}, {"~p(X) | q(X)", "p(a) | q(a)"}, {"~p(X) | p(X)", "p(a)"}, {"~p(X) | p(Y)", "~p(a)"}, {"X = Y", "a != b"}, {"X != Y", "a = b"}, {"p(X) | q(X)", "p(a) | ~q(a)"},
		{"p(a)", "p(X)"}, {"p(f(X))", "p(Y)"}, {"p(a)", "p(b)"}, {"p(X)", "q(a)"}, {"p(X)", "p"}, {"p", "p(a)"}, {"p(X)", "p(a,b)"}, {"p(X,Y)", "p(a)"}, {"p(f(X))", "p(f(a,a))"}, {"p(X)", "q | r"}, {"p(f(X))", "p(g(a))"}, {"p(a) | q(X)", "p(b) | q(a)"},
		{"q(X,X)", "q(a,b)"}, {"q(X,X)", "q(X,Y)"}, {"q(X,X)", "q(Y,X)"}, {"X = X", "a = b"}, {"X = a", "a = b"}, {"a = X", "b = a"}, {"p(X) | q(X)", "p(a) | q(b)"}, {"p(X) | q(X)", "p(Y) | q(X)"}, {"p(X) | q(X)", "p(X) | q(Y)"}, {"p(X) | q(Y) | r(X,Y)", "p(a) | q(b) | r(b,a)"}, {"p(X) | p(f(X))", "p(a) | p(b) | p(f(c))"}, {"q(X,Y) | q(Y,X)", "q(a,b) | q(b,c) | q(c,a)"},
		{"q(X,Y) | q(Y,Z) | q(Z,X)", "q(a,b) | q(b,a)"}, {"p(X) | q(X,Y) | r(Y)", "p(a) | p(b) | q(a,c) | q(b,c) | r(a) | r(b)"}, {"p | q", "p | r"}, {"p | q | r", "p | q"}, {"a = b", "b = a"}, {"p(X) | p(a)", "p(b)"}, {"q(a,X)", "q(X,a)"},
	} {
		if s, ok := checkSubsumed(t, clause(c[0]), clause(c[1])); !isEmptySub(s) || ok {
			t.Errorf("Subsumes of %s and %s is {%s}, %v", c[0], c[1], subText(s), ok)
		}
	}
}

// randomPair is a clause and one that it often subsumes, in the same variables.
func randomPair(source *rand.Rand) (impl.Clause, impl.Clause) {
	for {
		c := randomClause(source, 4, "X", "Y", "Z", "X", "a")
		m := map[string]impl.Term{}
		for _, name := range namesInOrder(c) {
			m[name] = termOver(source, 2, []string{"X", "Y", "Z", "a", "b"})
		}
		d, _ := plainReplace(m, c)
		if len(d.Literals) > 0 && source.IntN(4) == 0 {
			d.Literals = slices.Delete(d.Literals, 0, 1)
		}
		for range source.IntN(5) {
			d.Literals = append(d.Literals, literalOver(source, []string{"X", "Y", "a", "b"}))
		}
		if made, ok := plainMake(d.Literals); ok {
			return c, made
		}
	}
}

func TestSubsumptionFollowsTheDefinition(t *testing.T) {
	source, counts := rand.New(rand.NewPCG(7, 7)), [2]int{}
	for range 30000 {
		c, d := randomPair(source)
		if source.IntN(8) == 0 {
			c, d = d, c
		}
		if _, ok := checkSubsumed(t, c, d); ok {
			counts[0]++
		} else {
			counts[1]++
		}
	}
	// Literals of one predicate leave many choices.
	for range 20000 {
		c, d := impl.Clause{}, impl.Clause{}
		for range 1 + source.IntN(5) {
			c.Literals = append(c.Literals, yes(node("q", node("XYZWV"[source.IntN(5):][:1]), node("XYZWV"[source.IntN(5):][:1]))))
			d.Literals = append(d.Literals, yes(node("q", node("abcXY"[source.IntN(5):][:1]), node("abcXY"[source.IntN(5):][:1]))))
		}
		c, _ = plainMake(c.Literals)
		d, _ = plainMake(d.Literals)
		if s, ok := checkSubsumed(t, c, d); ok && !isEmptySub(s) {
			counts[0]++
		} else {
			counts[1]++
		}
	}
	if slices.Min(counts[:]) < 10000 {
		t.Error("the numbers of results are", counts)
	}
	list := append(clauses(), wideClauses()...)
	for i, c := range list {
		if s, ok := checkSubsumed(t, c, c); !ok && len(namesInOrder(c)) <= impl.MaxBindings {
			t.Errorf("%s subsumes itself with {%s}, %v", clauseText(c), subText(s), ok)
		}
		for j := range 20 {
			checkSubsumed(t, c, list[(i*3+j*7)%len(list)])
		}
	}
}

func TestSubsumedClausesAreConsequences(t *testing.T) {
	source, count, used := rand.New(rand.NewPCG(7, 8)), 0, 0
	for count < 1500 {
		c, d := randomPair(source)
		if _, ok := impl.Subsumes(c, d); !ok {
			continue
		}
		count++
		for _, m := range models() {
			if !m.isTrue(c) {
				continue
			}
			used++
			if !m.isTrue(d) {
				t.Fatalf("%s subsumes %s, but only the first one is true in the model %v", clauseText(c), clauseText(d), m)
			}
		}
	}
	if used < 5000 {
		t.Error("only", used, "models")
	}
}

// bindingClauses are a clause of one literal with the given number of variables and an instance of
// it. The first variables are left as they are.
func bindingClauses(count int, left int) (impl.Clause, impl.Clause) {
	variables, values := nodes(names(count)...), nodes(names(count)...)
	for i := left; i < count; i++ {
		values[i] = node("a")
	}
	return clauseOf(yes(leaves(variables...))), clauseOf(yes(leaves(values...)))
}

func TestLimitOfSubsumingBindings(t *testing.T) {
	for count := range 23 {
		for left := range count + 1 {
			if count == 0 {
				continue
			}
			c, d := bindingClauses(count, left)
			s, ok := checkSubsumed(t, c, d)
			if fits := count-left <= impl.MaxBindings; ok != fits || ok && len(s.Bindings) != count-left {
				t.Errorf("%d bindings of %d variables: {%s}, %v", count-left, count, subText(s), ok)
			}
		}
	}
	// Too many bindings do not lead to a search for other ones.
	c, same := bindingClauses(13, 13)
	d := clauseOf(yes(leaves(slices.Repeat(nodes("A"), 13)...)), same.Literals[0])
	if s, ok := checkSubsumed(t, c, d); !isEmptySub(s) || ok {
		t.Errorf("%s subsumes %s with {%s}, %v", clauseText(c), clauseText(d), subText(s), ok)
	}
	// Several literals together.
	for _, count := range []int{12, 13, 14} {
		c, d := impl.Clause{}, impl.Clause{}
		for i, name := range names(count) {
			p := node("p" + strconv.Itoa(i%8))
			if i < 8 {
				c.Literals, d.Literals = append(c.Literals, yes(p)), append(d.Literals, yes(p))
			}
			l, k := &c.Literals[i%8], &d.Literals[i%8]
			l.Atom.Args, k.Atom.Args = append(l.Atom.Args, node(name)), append(k.Atom.Args, node("b"))
		}
		if s, ok := checkSubsumed(t, c, d); ok != (count <= impl.MaxBindings) || ok && len(s.Bindings) != count {
			t.Errorf("%d bindings of 8 literals: {%s}, %v", count, subText(s), ok)
		}
	}
}

// Without looking ahead, a search for the last literal of these clauses tries all matches of the
// other ones, 8 to the power of 7 of them.
func TestSubsumptionDoesNotTryAllMatches(t *testing.T) {
	c, d := impl.Clause{}, impl.Clause{}
	last := []impl.Term{}
	for i := range 7 {
		own := nodes(names(14)...)
		for j := range own {
			own[j].Name = "ABCDEFG"[i:i+1] + own[j].Name[1:]
		}
		last = append(last, own[0])
		c.Literals = append(c.Literals, yes(node("p", leaves(own...))))
		d.Literals = append(d.Literals, yes(node("p", leaves(slices.Repeat(nodes("abcdefg"[i:i+1]), 14)...))))
	}
	c.Literals = append(c.Literals, yes(node("q", leaves(last...))))
	d.Literals = append(d.Literals, yes(node("q", leaves(slices.Repeat(nodes("h"), 7)...))))
	if !isProperClause(c) || !isProperClause(d) {
		t.Fatal(clauseText(c), clauseText(d))
	}
	for range 500 {
		if s, ok := impl.Subsumes(c, d); !isEmptySub(s) || ok {
			t.Fatal(subText(s), ok)
		}
	}
}

func TestRenameApart(t *testing.T) {
	for _, c := range [][2]string{
		{"$false", "$false"}, {"r", "r"}, {"p(a) | ~q(a,b)", "p(a) | ~q(a,b)"}, {"p(X0)", "p(Y0)"}, {"X0 = X1", "Y0 = Y1"}, {"p(X0) | q(X1,X0)", "p(Y0) | q(Y1,Y0)"}, {"~p(X0) | p(X0) | r(X1,X2,f(X0))", "~p(Y0) | p(Y0) | r(Y1,Y2,f(Y0))"},
		{"g(X0,X1) != g(X1,X0)", "g(Y0,Y1) != g(Y1,Y0)"}, {"p(X0) | p(X1) | p(f(X1))", "p(Y0) | p(Y1) | p(f(Y1))"},
	} {
		if r, ok := impl.RenameApart(clause(c[0])); clauseText(r) != c[1] || !ok {
			t.Errorf("%s becomes %s, %v", c[0], clauseText(r), ok)
		}
	}
	for _, text := range []string{
		"p(X)", "p(Y0)", "p(X1)", "p(X00)", "p(X01)", "p(X0a)", "p(Xa)", "p(Z0)", "q(X1,X0)", "q(X0,X2)", "q(X0,Y1)", "q(Y0,X1)", "p(X0) | q(X2,X1)", "p(X1) | q(X0,X1)", "p(X0) | p(X2)", "~p(X1) | p(X1)", "X1 = X0", "a = X1", "r(X0,X1,X3)", "r(X0,X2,X1)", "p(f(X1)) | q(X0,X1)", "p(a) | q(a,X1)",
	} {
		if r, ok := impl.RenameApart(clause(text)); !isEmptyClause(r) || ok {
			t.Errorf("%s becomes %s, %v, but is not normal", text, clauseText(r), ok)
		}
	}
	for _, text := range []string{"q(X0,X1) | p(X0)", "p(X1) | p(X0)", "p(X0) | p(X0)", "p(X0) | ~p(X0)", "r | r", "q | p", "q(X0,X1) | q(X0,X0)"} {
		if r, ok := impl.RenameApart(literalsOf(text)); !isEmptyClause(r) || ok {
			t.Errorf("%s becomes %s, %v, but is not valid", text, clauseText(r), ok)
		}
	}
}

func TestClausesRenamedApartShareNoVariables(t *testing.T) {
	check := func(c impl.Clause) bool {
		t.Helper()
		r, ok := impl.RenameApart(c)
		if ok != isPlainNormal(c) || !ok && !isEmptyClause(r) {
			t.Fatalf("%s becomes %s, %v", clauseText(c), clauseText(r), ok)
		}
		if !ok {
			return false
		}
		if !sameClause(r, plainRename(c, "Y")) || !impl.IsValidClause(r) || !areVariants(c, r) {
			t.Fatalf("%s becomes %s", clauseText(c), clauseText(r))
		}
		for _, name := range namesInOrder(r) {
			if slices.Contains(namesInOrder(c), name) {
				t.Fatalf("%s and %s share %s", clauseText(c), clauseText(r), name)
			}
		}
		// The order of the literals stays as it is.
		if strings.ReplaceAll(clauseText(c), "X", "Y") != clauseText(r) {
			t.Fatalf("%s becomes %s", clauseText(c), clauseText(r))
		}
		return true
	}
	list := append(clauses(), wideClauses()...)
	for _, c := range renamedClauses() {
		list = append(list, clause(c.text))
	}
	for _, c := range list {
		check(c)
		n, _ := plainNormalize(c)
		check(n)
	}
	source, counts := rand.New(rand.NewPCG(7, 9)), [2]int{}
	for range 10000 {
		c := randomClause(source, 5, "X0", "X1", "X2", "X0", "X1", "a")
		n, _ := plainNormalize(c)
		if !check(n) {
			t.Fatalf("%s is not normal", clauseText(n))
		}
		if check(c) {
			counts[0]++
		} else {
			counts[1]++
		}
	}
	if slices.Min(counts[:]) < 1000 {
		t.Error("the numbers of results are", counts)
	}
}

func TestClauseVariables(t *testing.T) {
	for text, want := range map[string][]string{
		"$false": nil, "r": nil, "p(a) | q(b,f(a))": nil, "p(X)": {"X"}, "p(x)": nil, "~p(X) | q(X,a)": {"X"}, "q(Y,X)": {"X", "Y"}, "q(X,X) | q(X,Y)": {"X", "Y"}, "p(Z) | q(Y,Z) | s(X)": {"X", "Y", "Z"}, "Y = X | Y != f(A)": {"A", "X", "Y"},
		"q(X2,X10)": {"X10", "X2"}, "p(G1) | p(G10) | p(G2) | p(Ga) | q(G,G0)": {"G", "G0", "G1", "G10", "G2", "Ga"}, "p(Zab9) | r(A,f(g(Zab,Zab9)),B)": {"A", "B", "Zab", "Zab9"},
	} {
		if list, ok := impl.ClauseVariables(clause(text)); !slices.Equal(list, want) || !ok {
			t.Errorf("the variables of %s are %q, %v", text, list, ok)
		}
	}
	list, source := append(clauses(), wideClauses()...), rand.New(rand.NewPCG(7, 10))
	for range 3000 {
		list = append(list, randomClause(source, impl.MaxLiterals, "X", "X0", "X10", "X2", "Y", "Za", "a", "b"))
	}
	for _, c := range list {
		if list, ok := impl.ClauseVariables(c); !slices.Equal(list, slices.Sorted(slices.Values(namesInOrder(c)))) || !ok {
			t.Fatalf("the variables of %s are %q, %v", clauseText(c), list, ok)
		}
	}
}

func TestClauseWeight(t *testing.T) {
	for text, want := range map[string]int{
		"$false": 0, "r": 1, "~r": 1, "~r | r": 2, "p(X)": 2, "~p(f(a))": 3, "a = b": 3, "a != b": 3, "p(X0) | q(X1,X0)": 5, "f(X) = X | p(f(X)) | r": 8, "p(X) | p(Y) | p(Z)": 6, "r(f(a),g(X,Y),b)": 7,
	} {
		if weight, ok := impl.ClauseWeight(clause(text)); weight != want || !ok {
			t.Errorf("the weight of %s is %d, %v", text, weight, ok)
		}
	}
	for _, c := range append(clauses(), wideClauses()...) {
		want := 0
		for _, l := range c.Literals {
			size, _ := sizeAndDepth(l.Atom)
			want += size
		}
		if weight, ok := impl.ClauseWeight(c); weight != want || !ok {
			t.Errorf("the weight of %s is %d, %v", clauseText(c), weight, ok)
		}
	}
	greatest := impl.Clause{}
	for i := range impl.MaxLiterals {
		greatest.Literals = append(greatest.Literals, yes(node("p"+strconv.Itoa(i), bush(impl.MaxTermSize-1))))
	}
	if weight, ok := impl.ClauseWeight(greatest); weight != 240 || !ok {
		t.Errorf("the weight of %s is %d, %v", clauseText(greatest), weight, ok)
	}
}

func TestInvalidClausesGiveZeroValues(t *testing.T) {
	for i, c := range invalidClauses() {
		if n, ok := impl.NormalizeClause(c); !isEmptyClause(n) || ok {
			t.Error("NormalizeClause:", i, ok)
		}
		if yes, ok := impl.IsTautology(c); yes || ok {
			t.Error("IsTautology:", i, yes, ok)
		}
		for _, s := range []impl.Substitution{{}, sub("X:=a"), sub("Q:=a;X:=Y"), sub("X:=X"), many(12, node("a"))} {
			if r, ok := impl.ApplyToClause(s, c); !isEmptyClause(r) || ok {
				t.Error("ApplyToClause:", i, subText(s), ok)
			}
		}
		for _, other := range []impl.Clause{{}, clause("r"), clause("p(X)"), clause("~p | p"), c} {
			for _, pair := range [][2]impl.Clause{{c, other}, {other, c}} {
				if s, ok := impl.Subsumes(pair[0], pair[1]); !isEmptySub(s) || ok {
					t.Error("Subsumes:", i, clauseText(other), ok)
				}
			}
		}
		if r, ok := impl.RenameApart(c); !isEmptyClause(r) || ok {
			t.Error("RenameApart:", i, ok)
		}
		if list, ok := impl.ClauseVariables(c); len(list) != 0 || ok {
			t.Error("ClauseVariables:", i, list, ok)
		}
		if weight, ok := impl.ClauseWeight(c); weight != 0 || ok {
			t.Error("ClauseWeight:", i, weight, ok)
		}
	}
}

func TestInvalidSubstitutionsAreNotAppliedToClauses(t *testing.T) {
	for i, s := range invalidSubstitutions() {
		for _, text := range []string{"$false", "r", "p(X)", "~p(X) | q(X,Y)", "X = a"} {
			if r, ok := impl.ApplyToClause(s, clause(text)); !isEmptyClause(r) || ok {
				t.Error("ApplyToClause:", i, text, ok)
			}
		}
	}
}

// checkNewClause tests that the result of a call shares no memory with the arguments. The call
// returns its result and functions that test and change its arguments.
func checkNewClause(t *testing.T, call func() (r impl.Clause, isKept func() bool, spoilArguments func())) {
	t.Helper()
	r, isKept, _ := call()
	want := cloneClause(r)
	spoilClause(&r)
	if !isKept() {
		t.Fatalf("changing the result %s changes an argument", clauseText(want))
	}
	r, _, spoilArguments := call()
	spoilArguments()
	if !sameClause(r, want) {
		t.Fatalf("changing the arguments changes the result %s", clauseText(want))
	}
}

// spoilClause changes all memory of a clause, also that beyond the lengths of its lists.
func spoilClause(c *impl.Clause) {
	all := c.Literals[:cap(c.Literals)]
	for i := range all {
		spoil(&all[i].Atom)
		all[i] = yes(node("spoilt"))
	}
}

// memoryClauses lists clauses, some of which are not valid.
func memoryClauses() []impl.Clause {
	list := append(clauses(), wideClauses()[:4]...)
	for _, text := range []string{"p(X) | p(Y)", "p(Y) | q(X,Y)", "p(Z) | q(Y,Z)", "X = Y | p(f(X)) | q(a,f(Y))", "p(X0) | q(X1,X0)", "~p(X0) | p(X0) | r(X1,X2,f(X0))", "p(X0) | p(f(g(X1,X1)))", "q | p", "p | p", "p(X) | p | ~p(X)", "a = b | a != b"} {
		list = append(list, literalsOf(text))
	}
	return append(list, clauseOf(yes(node("X")), no(node("f", node("=", node("X"), node("X"))))), clauseOf(slices.Repeat([]impl.Literal{literal("p(X)")}, 20)...))
}

func TestClauseArgumentsAreNotChanged(t *testing.T) {
	list, subs := memoryClauses(), append(substitutions(), sub("X:=X"), many(13, node("a")))
	for i, c := range list {
		for j, d := range list {
			s := subs[(i*3+j)%len(subs)]
			first, second, other := clauseWithRoom(c), clauseWithRoom(d), subWithRoom(s)
			impl.IsValidClause(first)
			impl.MakeClause(first.Literals)
			impl.NormalizeClause(first)
			impl.IsTautology(first)
			impl.ApplyToClause(other, first)
			impl.Subsumes(first, second)
			impl.RenameApart(first)
			impl.ClauseVariables(first)
			impl.ClauseWeight(first)
			if len(c.Literals) > 0 && len(d.Literals) > 0 {
				impl.IsValidLiteral(first.Literals[0])
				impl.CompareLiterals(first.Literals[0], second.Literals[0])
			}
			if !isClauseKept(first, c) || !isClauseKept(second, d) || !isKept(other, s) {
				t.Fatalf("%s, %s or {%s} is changed", clauseText(c), clauseText(d), subText(s))
			}
		}
	}
}

func TestLiteralsBeyondTheLengthAreNotRead(t *testing.T) {
	for _, c := range append(clauses(), wideClauses()...) {
		room := clauseWithRoom(c)
		if !impl.IsValidClause(room) {
			t.Errorf("%s is invalid with elements beyond the lengths", clauseText(c))
		}
		if made, ok := impl.MakeClause(room.Literals); !sameClause(made, c) || !ok {
			t.Errorf("MakeClause of %s is %s, %v", clauseText(c), clauseText(made), ok)
		}
		checkNormalized(t, room)
		if yes, ok := impl.IsTautology(room); yes != isPlainTautology(c) || !ok {
			t.Errorf("IsTautology of %s is %v, %v", clauseText(c), yes, ok)
		}
		for _, s := range substitutions() {
			checkApplied(t, subWithRoom(s), room)
		}
		checkSubsumed(t, room, clauseWithRoom(c))
		checkSubsumed(t, clause("~beyond"), room)
		checkSubsumed(t, room, clause("~beyond"))
		if list, ok := impl.ClauseVariables(room); !slices.Equal(list, slices.Sorted(slices.Values(namesInOrder(c)))) || !ok {
			t.Errorf("the variables of %s are %q, %v", clauseText(c), list, ok)
		}
	}
	for _, c := range misplacedLiterals() {
		if impl.IsValidClause(clauseWithRoom(c)) {
			t.Errorf("%s is valid with elements beyond the lengths", clauseText(c))
		}
	}
}

func TestClauseResultsAreInNewMemory(t *testing.T) {
	subs := substitutions()
	for i, c := range memoryClauses() {
		kept := func(room impl.Clause) func() bool { return func() bool { return isClauseKept(room, c) } }
		for _, function := range []func(c impl.Clause) (impl.Clause, bool){impl.NormalizeClause, impl.RenameApart, func(c impl.Clause) (impl.Clause, bool) { return impl.MakeClause(c.Literals) }} {
			checkNewClause(t, func() (impl.Clause, func() bool, func()) {
				room := clauseWithRoom(c)
				r, _ := function(room)
				return r, kept(room), func() { spoilClause(&room) }
			})
		}
		for _, s := range subs {
			checkNewClause(t, func() (impl.Clause, func() bool, func()) {
				room, other := clauseWithRoom(c), subWithRoom(s)
				r, _ := impl.ApplyToClause(other, room)
				return r, func() bool { return isClauseKept(room, c) && isKept(other, s) }, func() { spoilClause(&room); spoilSub(&other) }
			})
			d, _ := plainReplace(mapOf(s), c)
			checkNewSub(t, func() (impl.Substitution, func() bool, func()) {
				first, second := clauseWithRoom(c), clauseWithRoom(d)
				r, _ := impl.Subsumes(first, second)
				return r, func() bool { return isClauseKept(first, c) && isClauseKept(second, d) }, func() { spoilClause(&first); spoilClause(&second) }
			})
		}
		first, ok := impl.ClauseVariables(c)
		want := slices.Clone(first)
		for j := range first[:cap(first)] {
			first[:cap(first)][j] = "spoilt"
		}
		if second, fine := impl.ClauseVariables(c); !slices.Equal(second, want) || ok != fine {
			t.Errorf("%d: two lists of variables share memory", i)
		}
	}
}

func TestPartsOfClauseResultsAreSeparate(t *testing.T) {
	// The arguments use the same memory in many places.
	one := node("g", node("f", node("X0")), node("a"))
	two := node("g", one, one)
	list := []impl.Literal{no(one), yes(one), yes(two), yes(node("h", one, two)), yes(one), no(node("=", one, one)), yes(node("=", one, two))}
	atoms := func(c impl.Clause) impl.Substitution {
		s := impl.Substitution{}
		for _, l := range c.Literals {
			s.Bindings = append(s.Bindings, bind("X", l.Atom))
		}
		return s
	}
	for depth := range 4 {
		made, _ := impl.MakeClause(list)
		c, _ := impl.MakeClause(list)
		n, _ := impl.NormalizeClause(c)
		apart, _ := impl.RenameApart(c)
		r, ok := impl.ApplyToClause(subOf(bind("X0", one), bind("X1", one)), clause("X0 = X1 | p(X0,X0) | p(X1,f(X0)) | q(X0,g(X1,X1))"))
		if len(made.Literals) != 6 || len(n.Literals) != 6 || len(apart.Literals) != 6 || !ok {
			t.Fatal(clauseText(made), clauseText(n), clauseText(apart), clauseText(r))
		}
		for _, result := range []impl.Clause{made, n, apart, r} {
			checkSeparate(t, clauseText(result), partsOf(atoms(result), depth)...)
		}
		s, ok := impl.Subsumes(clause("p(X,Y) | q(Z,f(X),W)"), clauseOf(yes(node("p", one, one)), yes(node("q", two, node("f", one), one))))
		if len(s.Bindings) != 4 || !ok {
			t.Fatal(subText(s), ok)
		}
		checkSeparate(t, "Subsumes", partsOf(s, depth)...)
	}
}

func TestClauseCallsKeepNothing(t *testing.T) {
	c, d := clause("p(Z) | q(Y,Z)"), clause("p(a) | q(f(b),a)")
	for range 3 {
		made, _ := impl.MakeClause(c.Literals)
		n, _ := impl.NormalizeClause(c)
		apart, _ := impl.RenameApart(clause("p(X0) | q(X1,X0)"))
		s, _ := impl.Subsumes(c, d)
		r, _ := impl.ApplyToClause(s, c)
		if clauseText(made) != "p(Z) | q(Y,Z)" || clauseText(n) != "p(X0) | q(X1,X0)" || clauseText(apart) != "p(Y0) | q(Y1,Y0)" || subText(s) != "Y:=f(b);Z:=a" || clauseText(r) != "p(a) | q(f(b),a)" {
			t.Fatal(clauseText(made), clauseText(n), clauseText(apart), subText(s), clauseText(r))
		}
		for _, result := range []*impl.Clause{&made, &n, &apart, &r} {
			spoilClause(result)
		}
		spoilSub(&s)
	}
}
