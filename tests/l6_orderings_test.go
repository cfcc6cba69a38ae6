package tests

import (
	"math"
	"math/rand/v2"
	"slices"
	"strconv"
	"strings"
	"testing"

	"loop.example/g00892/impl"
)

// ordering is the Ordering with the given text, valid or not: the symbols with their weights, and
// the weight of the variables.
func ordering(s string) impl.Ordering {
	o := impl.Ordering{}
	for _, field := range strings.Fields(s) {
		name, weight, isSymbol := strings.Cut(field, ":")
		if !isSymbol {
			o.Variable, _ = strconv.Atoi(field)
			continue
		}
		number, _ := strconv.Atoi(weight)
		o.Symbols, o.Weights = append(o.Symbols, name), append(o.Weights, number)
	}
	return o
}

func orderingText(o impl.Ordering) string {
	text := ""
	for i, name := range o.Symbols {
		text += name + ":"
		if i < len(o.Weights) {
			text += strconv.Itoa(o.Weights[i])
		}
		text += " "
	}
	return text + strconv.Itoa(o.Variable)
}

func cloneOrdering(o impl.Ordering) impl.Ordering {
	return impl.Ordering{Symbols: slices.Clone(o.Symbols), Weights: slices.Clone(o.Weights), Variable: o.Variable}
}

// terms lists the terms with the given texts, which semicolons separate.
func terms(s string) []impl.Term {
	list := []impl.Term{}
	for _, text := range strings.Split(s, ";") {
		if text != "" {
			list = append(list, expr(text))
		}
	}
	return list
}

func termTexts(list []impl.Term) string {
	texts := []string{}
	for _, e := range list {
		texts = append(texts, termText(e))
	}
	return strings.Join(texts, ";")
}

func literal(s string) impl.Literal {
	l, ok := impl.ParseLiteral(s)
	if !ok {
		panic("no literal: " + s)
	}
	return l
}

// literalsOf is a clause of the literals with the given texts in any order.
func literalsOf(s string) impl.Clause {
	c := impl.Clause{}
	for _, text := range strings.Split(s, " | ") {
		if text != "" {
			c.Literals = append(c.Literals, literal(text))
		}
	}
	return c
}

var orderNames = []string{"none", "equal", "greater", "less"}

// exchanged is the result of a comparison after the arguments are exchanged.
func exchanged(order int) int {
	return []int{impl.OrderNone, impl.OrderEqual, impl.OrderLess, impl.OrderGreater}[order]
}

// The definitions of the document, written down once more.

func plainWeight(o impl.Ordering, e impl.Term) int {
	weight := o.Variable
	if !isVariable(e) {
		weight = o.Weights[slices.Index(o.Symbols, e.Name)]
	}
	for _, arg := range e.Args {
		weight += plainWeight(o, arg)
	}
	return weight
}

func occurrences(name string, e impl.Term) int {
	count := 0
	if e.Name == name {
		count++
	}
	for _, arg := range e.Args {
		count += occurrences(name, arg)
	}
	return count
}

// isBefore reports whether the root of a precedes that of b.
func isBefore(o impl.Ordering, a, b impl.Term) bool {
	if a.Name == b.Name {
		return len(a.Args) < len(b.Args)
	}
	return slices.Index(o.Symbols, a.Name) < slices.Index(o.Symbols, b.Name)
}

// differingArguments returns the first arguments that differ, and whether there are such.
func differingArguments(s, t impl.Term) (impl.Term, impl.Term, bool) {
	for i := range s.Args {
		if !same(s.Args[i], t.Args[i]) {
			return s.Args[i], t.Args[i], true
		}
	}
	return impl.Term{}, impl.Term{}, false
}

func plainKBO(o impl.Ordering, s, t impl.Term) bool {
	for _, name := range variablesOf(t) {
		if occurrences(name, s) < occurrences(name, t) {
			return false
		}
	}
	more := plainWeight(o, s) - plainWeight(o, t)
	if more > 0 {
		return true
	}
	if more == 0 && !isVariable(s) && !isVariable(t) && isBefore(o, t, s) {
		return true
	}
	if more == 0 && haveSameRoot(s, t) {
		x, y, differ := differingArguments(s, t)
		return differ && plainKBO(o, x, y)
	}
	return false
}

// plainLPO notes its results, since it comes to the same subterms in many ways.
func plainLPO(o impl.Ordering, s, t impl.Term, known map[[2]string]bool) bool {
	key := [2]string{termText(s), termText(t)}
	if _, isKnown := known[key]; !isKnown {
		known[key] = findLPO(o, s, t, known)
	}
	return known[key]
}

func findLPO(o impl.Ordering, s, t impl.Term, known map[[2]string]bool) bool {
	if isVariable(s) {
		return false
	}
	for _, arg := range s.Args {
		if same(arg, t) || plainLPO(o, arg, t, known) {
			return true
		}
	}
	isAboveAll := true
	for _, arg := range t.Args {
		isAboveAll = isAboveAll && plainLPO(o, s, arg, known)
	}
	if !isVariable(t) && isBefore(o, t, s) && isAboveAll {
		return true
	}
	if haveSameRoot(s, t) && isAboveAll {
		x, y, differ := differingArguments(s, t)
		return differ && plainLPO(o, x, y, known)
	}
	return false
}

func plainOrder(areEqual, isGreater, isLess bool) int {
	switch {
	case areEqual:
		return impl.OrderEqual
	case isGreater:
		return impl.OrderGreater
	case isLess:
		return impl.OrderLess
	}
	return impl.OrderNone
}

func plainMultisets(a, b []impl.Term, isGreater func(s, t impl.Term) bool) int {
	a, b = slices.Clone(a), slices.Clone(b)
	for i := 0; i < len(a); {
		j := slices.IndexFunc(b, func(e impl.Term) bool { return same(e, a[i]) })
		if j < 0 {
			i++
			continue
		}
		a, b = slices.Delete(a, i, i+1), slices.Delete(b, j, j+1)
	}
	isAbove := func(a, b []impl.Term) bool {
		for _, e := range b {
			if !slices.ContainsFunc(a, func(d impl.Term) bool { return isGreater(d, e) }) {
				return false
			}
		}
		return true
	}
	return plainOrder(len(a) == 0 && len(b) == 0, isAbove(a, b), isAbove(b, a))
}

func plainElements(l impl.Literal) []impl.Term {
	list := []impl.Term{l.Atom, node("special")}
	if l.Atom.Name == "=" {
		list = []impl.Term{l.Atom.Args[0], l.Atom.Args[1]}
	}
	if !l.Positive {
		list = append(list, list[0], list[1])
	}
	return list
}

func plainLiterals(o impl.Ordering, a, b impl.Literal) int {
	return plainMultisets(plainElements(a), plainElements(b), func(s, t impl.Term) bool {
		if s.Name == "special" || t.Name == "special" {
			return s.Name != "special"
		}
		return plainKBO(o, s, t)
	})
}

func plainMaximal(o impl.Ordering, c impl.Clause) []int {
	list := []int{}
	for i, l := range c.Literals {
		isMaximal := true
		for j, other := range c.Literals {
			isMaximal = isMaximal && (i == j || plainLiterals(o, other, l) != impl.OrderGreater)
		}
		if isMaximal {
			list = append(list, i)
		}
	}
	return list
}

// uniform gives all symbols that most of the tests use, and the variables, the weight 1.
func uniform() impl.Ordering {
	return ordering("a:1 b:1 c:1 f:1 g:1 h:1 p:1 q:1 r:1 1")
}

// orderings lists valid orderings that have the symbols a, f, g, b and h.
func orderings() []impl.Ordering {
	list := []impl.Ordering{uniform()}
	for _, text := range []string{
		"a:1 b:1 f:1 g:1 h:1 1", "h:1 g:1 f:1 b:1 a:1 1", "f:1 a:1 h:1 b:1 g:1 1", "g:1 a:1 b:1 h:1 f:1 1", "a:3 b:1 f:1 g:2 h:1 1", "f:3 g:2 h:1 a:1 b:2 1", "a:2 b:2 f:2 g:2 h:2 2", "b:4 a:3 g:3 f:4 h:3 3",
		"a:100 b:100 f:100 g:100 h:100 100", "a:1 b:100 f:1 g:100 h:50 1", "a:1 b:1 c:1 d:1 e:1 f:1 g:1 h:1 p:1 q:1 r:1 s:1 1",
	} {
		list = append(list, ordering(text))
	}
	return list
}

// checkPair tests the comparisons of two terms by both orderings against the definitions.
func checkPair(t *testing.T, o impl.Ordering, s, e impl.Term, known map[[2]string]bool) {
	t.Helper()
	want := plainOrder(same(s, e), plainKBO(o, s, e), plainKBO(o, e, s))
	if order, ok := impl.CompareKBO(o, s, e); order != want || !ok {
		t.Fatalf("CompareKBO by %s of %s and %s is %d, %v instead of %s", orderingText(o), termText(s), termText(e), order, ok, orderNames[want])
	}
	if order, ok := impl.CompareKBO(o, e, s); order != exchanged(want) || !ok {
		t.Fatalf("CompareKBO by %s of %s and %s is %d, %v instead of %s", orderingText(o), termText(e), termText(s), order, ok, orderNames[exchanged(want)])
	}
	want = plainOrder(same(s, e), plainLPO(o, s, e, known), plainLPO(o, e, s, known))
	if order, ok := impl.CompareLPO(o, s, e); order != want || !ok {
		t.Fatalf("CompareLPO by %s of %s and %s is %d, %v instead of %s", orderingText(o), termText(s), termText(e), order, ok, orderNames[want])
	}
	if order, ok := impl.CompareLPO(o, e, s); order != exchanged(want) || !ok {
		t.Fatalf("CompareLPO by %s of %s and %s is %d, %v instead of %s", orderingText(o), termText(e), termText(s), order, ok, orderNames[exchanged(want)])
	}
}

func checkMultisets(t *testing.T, o impl.Ordering, a, b []impl.Term) int {
	t.Helper()
	want := plainMultisets(a, b, func(s, e impl.Term) bool { return plainKBO(o, s, e) })
	if order, ok := impl.CompareMultisets(o, a, b); order != want || !ok {
		t.Fatalf("CompareMultisets by %s of %s and %s is %d, %v instead of %s", orderingText(o), termTexts(a), termTexts(b), order, ok, orderNames[want])
	}
	if order, ok := impl.CompareMultisets(o, b, a); order != exchanged(want) || !ok {
		t.Fatalf("CompareMultisets by %s of %s and %s is %d, %v instead of %s", orderingText(o), termTexts(b), termTexts(a), order, ok, orderNames[exchanged(want)])
	}
	return want
}

func checkLiterals(t *testing.T, o impl.Ordering, a, b impl.Literal) int {
	t.Helper()
	want := plainLiterals(o, a, b)
	if order, ok := impl.OrderLiterals(o, a, b); order != want || !ok {
		t.Fatalf("OrderLiterals by %s of %s and %s is %d, %v instead of %s", orderingText(o), literalText(a), literalText(b), order, ok, orderNames[want])
	}
	if order, ok := impl.OrderLiterals(o, b, a); order != exchanged(want) || !ok {
		t.Fatalf("OrderLiterals by %s of %s and %s is %d, %v instead of %s", orderingText(o), literalText(b), literalText(a), order, ok, orderNames[exchanged(want)])
	}
	return want
}

// checkMaximal tests the maximal literals against the definition, and that there is one.
func checkMaximal(t *testing.T, o impl.Ordering, c impl.Clause) {
	t.Helper()
	list, ok := impl.MaximalLiterals(o, c)
	if !slices.Equal(list, plainMaximal(o, c)) || !ok {
		t.Fatalf("MaximalLiterals by %s of %s is %v, %v instead of %v", orderingText(o), clauseText(c), list, ok, plainMaximal(o, c))
	}
	if len(c.Literals) > 0 && len(list) == 0 {
		t.Fatalf("%s has no maximal literal by %s", clauseText(c), orderingText(o))
	}
}

// checkOriented tests an orientation against the definition, and that the first side is greater.
func checkOriented(t *testing.T, o impl.Ordering, left, right impl.Term) {
	t.Helper()
	e := node("=", left, right)
	want, isOriented := e, plainKBO(o, left, right)
	if plainKBO(o, right, left) {
		want, isOriented = node("=", right, left), true
	}
	r, yes, ok := impl.OrientEquation(o, e)
	if !same(r, want) || yes != isOriented || !ok {
		t.Fatalf("OrientEquation by %s of %s is %s, %v, %v", orderingText(o), termText(e), termText(r), yes, ok)
	}
	order, _ := impl.CompareKBO(o, r.Args[0], r.Args[1])
	if yes != (order == impl.OrderGreater) {
		t.Fatalf("OrientEquation by %s of %s is %s, %v, but the sides are %s", orderingText(o), termText(e), termText(r), yes, orderNames[order])
	}
	wantFirst := 0
	if plainKBO(o, left, right) {
		wantFirst = -1
	}
	if first, ok := impl.FirstNotDecreasing(o, []impl.Term{e}); first != wantFirst || !ok {
		t.Fatalf("FirstNotDecreasing by %s of %s is %d, %v", orderingText(o), termText(e), first, ok)
	}
}

func TestOrderingExamples(t *testing.T) {
	x, y, a, r := node("X"), node("Y"), node("a"), node("r")
	o := impl.Ordering{Symbols: []string{"a", "f", "g", "r"}, Weights: []int{1, 1, 1, 1}, Variable: 1}
	if order, ok := impl.CompareKBO(o, node("f", x), x); order != impl.OrderGreater || !ok {
		t.Errorf("f(X) and X: %d, %v", order, ok)
	}
	if order, ok := impl.CompareKBO(o, node("f", x), node("f", y)); order != impl.OrderNone || !ok {
		t.Errorf("f(X) and f(Y): %d, %v", order, ok)
	}
	if order, ok := impl.CompareLPO(o, node("g", x, a), node("f", node("f", x))); order != impl.OrderGreater || !ok {
		t.Errorf("g(X,a) and f(f(X)): %d, %v", order, ok)
	}
	if order, ok := impl.CompareMultisets(o, []impl.Term{node("f", x)}, []impl.Term{x, x}); order != impl.OrderGreater || !ok {
		t.Errorf("the multiset of f(X) and that of X and X: %d, %v", order, ok)
	}
	if order, ok := impl.OrderLiterals(o, no(r), yes(r)); order != impl.OrderGreater || !ok {
		t.Errorf("~r and r: %d, %v", order, ok)
	}
}

func TestLimitsOfOrderings(t *testing.T) {
	if impl.MaxSymbols != 12 || impl.MaxTermList != 8 {
		t.Error(impl.MaxSymbols, impl.MaxTermList)
	}
	if impl.OrderNone != 0 || impl.OrderEqual != 1 || impl.OrderGreater != 2 || impl.OrderLess != 3 {
		t.Error(impl.OrderNone, impl.OrderEqual, impl.OrderGreater, impl.OrderLess)
	}
}

// orderingOf is an ordering of the given number of symbols.
func orderingOf(count int) impl.Ordering {
	o := impl.Ordering{Variable: 1}
	for i := range count {
		o.Symbols, o.Weights = append(o.Symbols, "s"+strconv.Itoa(i)), append(o.Weights, 1+i%3)
	}
	return o
}

func TestNumbersOfSymbols(t *testing.T) {
	for count := range 40 {
		o, fits := orderingOf(count), 1 <= count && count <= impl.MaxSymbols
		if impl.IsValidOrdering(o) != fits {
			t.Errorf("an ordering of %d symbols is valid: %v", count, !fits)
		}
		if weight, ok := impl.TermWeight(o, node("X")); ok != fits || ok != (weight == 1) || !ok && weight != 0 {
			t.Errorf("the weight of X by %d symbols is %d, %v", count, weight, ok)
		}
		if order, ok := impl.CompareMultisets(o, nil, nil); ok != fits || ok != (order == impl.OrderEqual) || !ok && order != 0 {
			t.Errorf("the empty multisets by %d symbols: %d, %v", count, order, ok)
		}
		for others := range 20 {
			o.Weights = slices.Repeat([]int{1}, others)
			if impl.IsValidOrdering(o) != (fits && others == count) {
				t.Errorf("an ordering of %d symbols and %d weights", count, others)
			}
		}
	}
}

func TestSymbolsOccurOnce(t *testing.T) {
	for count := 2; count <= impl.MaxSymbols; count++ {
		for i := range count {
			for j := range count {
				o := orderingOf(count)
				o.Symbols[i] = o.Symbols[j]
				if impl.IsValidOrdering(o) != (i == j) {
					t.Errorf("%s is valid: %v", orderingText(o), i != j)
				}
			}
		}
	}
}

func TestSymbolNames(t *testing.T) {
	list := append(possibleNames(), "=", "a=", "abcde", "abcdef", "abcdefg", "a_9z__", "a__", "\u00e9", "a\u00e9", "a b", "f(X)", "special", "beyond")
	for _, name := range list {
		isSymbol := impl.IsValidAtom(node(name))
		for _, o := range []impl.Ordering{{Symbols: []string{name}, Weights: []int{1}, Variable: 1}, {Symbols: []string{"zz", name}, Weights: []int{1, 2}, Variable: 1}, {Symbols: []string{name, "zz"}, Weights: []int{1, 2}, Variable: 1}} {
			if impl.IsValidOrdering(o) != isSymbol {
				t.Fatalf("an ordering with the symbol %q is valid: %v", name, !isSymbol)
			}
		}
	}
}

func TestWeights(t *testing.T) {
	numbers := []int{math.MinInt, math.MinInt + 1, -100, -1, 0, 1, 2, 3, 49, 50, 51, 98, 99, 100, 101, 102, 1000, math.MaxInt - 1, math.MaxInt}
	for _, variable := range numbers {
		for _, weight := range numbers {
			for at := range 3 {
				other := max(1, min(100, variable))
				o := impl.Ordering{Symbols: []string{"a", "b", "f"}, Weights: []int{other, other, other}, Variable: variable}
				o.Weights[at] = weight
				want := 1 <= variable && variable <= 100 && variable <= weight && weight <= 100
				if impl.IsValidOrdering(o) != want {
					t.Errorf("%s is valid: %v", orderingText(o), !want)
				}
				if n, ok := impl.TermWeight(o, node("X")); ok != want || ok && n != variable || !ok && n != 0 {
					t.Errorf("the weight of X by %s is %d, %v", orderingText(o), n, ok)
				}
			}
		}
	}
	for _, o := range orderings() {
		if !impl.IsValidOrdering(o) {
			t.Errorf("%s is invalid", orderingText(o))
		}
	}
}

func TestTermWeight(t *testing.T) {
	o := ordering("a:7 b:5 f:11 g:13 5")
	for _, c := range []struct {
		text string
		want int
	}{
		{"X", 5}, {"Zabc", 5}, {"a", 7}, {"b", 5}, {"f", 11}, {"f(X)", 16}, {"f(a)", 18}, {"f(b)", 16}, {"f(f(f(a)))", 40}, {"g(X,X)", 23}, {"g(X,Y)", 23}, {"g(a,b)", 25}, {"g(f(g(X,a)),b)", 54}, {"g(a,a,a,a)", 41}, {"a(X)", 12}, {"f(f,f)", 33}, {"b(a(g),f(Y,b,X))", 51},
	} {
		if n, ok := impl.TermWeight(o, expr(c.text)); n != c.want || !ok {
			t.Errorf("the weight of %s is %d, %v instead of %d", c.text, n, ok, c.want)
		}
	}
	great := ordering("f:100 g:100 h:100 100")
	for _, c := range []struct {
		e    impl.Term
		want int
	}{{deepAndWide(), 3000}, {bush(30), 3000}, {bush(29), 2900}, {chain(8, node("X")), 800}, {chain(8, node("g")), 800}} {
		if n, ok := impl.TermWeight(great, c.e); n != c.want || !ok {
			t.Errorf("the weight of %s is %d, %v instead of %d", termText(c.e), n, ok, c.want)
		}
	}
	for _, o := range orderings() {
		for _, e := range smallExpressions(5) {
			if n, ok := impl.TermWeight(o, e); n != plainWeight(o, e) || !ok {
				t.Fatalf("the weight of %s by %s is %d, %v", termText(e), orderingText(o), n, ok)
			}
		}
	}
}

type comparison struct {
	first, second string
	want          int
}

// checkComparisons tests the results of one of the orderings, for the text of each Ordering.
func checkComparisons(t *testing.T, compare func(o impl.Ordering, s, t impl.Term) (int, bool), all map[string][]comparison) {
	t.Helper()
	for text, list := range all {
		o := ordering(text)
		for _, c := range list {
			first, second := expr(c.first), expr(c.second)
			if order, ok := compare(o, first, second); order != c.want || !ok {
				t.Errorf("by %s, comparing %s and %s gives %d, %v instead of %s", text, c.first, c.second, order, ok, orderNames[c.want])
			}
			if order, ok := compare(o, second, first); order != exchanged(c.want) || !ok {
				t.Errorf("by %s, comparing %s and %s gives %d, %v instead of %s", text, c.second, c.first, order, ok, orderNames[exchanged(c.want)])
			}
		}
	}
}

func TestCompareKBO(t *testing.T) {
	const none, equal, greater, less = impl.OrderNone, impl.OrderEqual, impl.OrderGreater, impl.OrderLess
	checkComparisons(t, impl.CompareKBO, map[string][]comparison{
		"a:1 b:1 c:1 f:1 g:1 h:1 1": {
			// Variables.
			{"X", "X", equal}, {"X", "Y", none}, {"f(X)", "X", greater}, {"g(a,X)", "X", greater}, {"g(f(f(X)),X)", "X", greater}, {"X", "a", none}, {"X", "f(Y)", none}, {"X", "f(a)", none}, {"X", "h(Y,Y,Z)", none}, {"f(X)", "f(Y)", none}, {"g(X,Y)", "g(Y,X)", none}, {"g(X,Y)", "X", greater}, {"g(X,Y)", "Z", none},
			// A variable occurs more often in the lighter or in the heavier term, or in one only.
			{"h(a,b,f(X))", "g(X,X)", none}, {"f(f(f(f(X))))", "g(X,X)", none}, {"f(g(X,X))", "g(X,a)", greater}, {"f(f(f(X)))", "f(f(X))", greater}, {"g(X,X)", "f(X)", greater}, {"g(X,Y)", "f(X)", greater}, {"g(X,Y)", "f(Z)", none}, {"f(f(f(a)))", "f(X)", none}, {"f(f(f(X)))", "f(a)", greater}, {"f(f(X))", "a", greater}, {"h(X,Y,Z)", "g(X,Y)", greater}, {"h(X,Y,Z)", "g(X,X)", none},
			{"h(X,Y,Y)", "g(Y,Y)", greater}, {"h(X,X,Y)", "g(Y,Y)", none}, {"h(X,X,X)", "f(g(X,a))", greater}, {"f(g(X,X))", "h(X,a,b)", none}, {"h(X,X,a)", "f(g(X,b))", greater}, {"h(a,b,X)", "f(g(Y,X))", none}, {"g(X,X)", "g(X,a)", none}, {"g(X,a)", "f(f(X))", greater}, {"g(a,b)", "f(f(X))", none}, {"g(a,X)", "f(f(b))", greater},
			// The weights are different.
			{"f(a)", "a", greater}, {"f(a)", "c", greater}, {"f(f(a))", "h(b)", greater}, {"g(a,a)", "h", greater}, {"f(f(f(a)))", "h(c,c)", greater}, {"h(c,c,c)", "f(f(f(f(a))))", less},
			// The weights are equal, and the roots differ in their precedence.
			{"b", "a", greater}, {"c", "b", greater}, {"f", "c", greater}, {"g(a)", "f(a)", greater}, {"g(a)", "f(c)", greater}, {"g(X)", "f(X)", greater}, {"h(a,b)", "g(b,c)", greater}, {"h(X,a)", "g(b,X)", greater}, {"h(a)", "g(X)", none}, {"f(h(h(c)))", "g(f(f(a)))", less}, {"a(b)", "b(a)", less},
			// They have equal symbols and different numbers of arguments.
			{"f(a,a)", "f(f(c))", greater}, {"f(X,a)", "f(f(X))", greater}, {"f(a,X)", "f(f(Y))", none}, {"h(a,a,a)", "h(f(c),c)", greater}, {"h(a,a,a,a)", "h(g(c,c),c)", greater}, {"f(f(f(c)))", "f(f(a,a))", less}, {"f(f)", "f(c)", greater},
			// The first arguments that differ are the first, middle or last ones.
			{"f(b)", "f(a)", greater}, {"h(b,a,a)", "h(a,c,c)", greater}, {"h(a,c,a)", "h(a,b,c)", greater}, {"h(a,c,c)", "h(a,c,b)", greater}, {"h(X,b,Y)", "h(X,a,Y)", greater}, {"h(X,Y,b)", "h(X,Y,a)", greater}, {"h(a,b,c,f)", "h(a,b,c,c)", greater}, {"g(f(a),a)", "g(a,f(a))", greater}, {"g(f(X),X)", "g(X,f(X))", greater}, {"g(f(X),Y)", "g(X,f(Y))", greater}, {"g(f(X),Y)", "g(Y,f(X))", none},
			{"h(a,g(b,a),c)", "h(a,g(a,c),c)", greater}, {"f(f(f(b)))", "f(f(f(a)))", greater}, {"g(X,g(Y,b))", "g(X,g(Y,a))", greater}, {"g(g(X,Y),b)", "g(g(Y,X),a)", none}, {"g(X,b)", "g(Y,a)", none}, {"h(X,Y,b)", "h(Y,X,a)", none}, {"h(X,b,Y)", "h(X,a,Z)", none}, {"g(f(a),h)", "g(f(a),h)", equal}, {"g(f(X),h)", "g(f(X),h)", equal}, {"g(X,X)", "g(X,X)", equal},
		},
		"c:1 h:1 g:1 f:1 b:1 a:1 1": {
			{"a", "b", greater}, {"b", "c", greater}, {"c", "h", less}, {"g(a)", "f(a)", less}, {"f(X)", "X", greater}, {"h(b,a,a)", "h(a,c,c)", less}, {"f(a,a)", "f(f(c))", greater}, {"g(X,a)", "f(f(X))", less},
		},
		"a:3 b:1 f:1 g:2 h:4 1": {
			{"a", "b", greater}, {"f(b)", "a", less}, {"f(f(b))", "a", greater}, {"f(X)", "a", none}, {"f(f(X))", "a", greater}, {"g(b)", "a", greater}, {"g(X)", "f(X)", greater}, {"g(X)", "f(f(X))", greater}, {"g(f(X))", "f(f(f(X)))", greater}, {"f(f(f(f(X))))", "g(f(X))", greater}, {"g(a,b)", "g(b,a)", greater}, {"g(a,X)", "g(X,a)", none}, {"h", "f(a)", greater}, {"g(f(b))", "h", less}, {"g(g(b))", "h", greater}, {"f(a)", "h", less}, {"h", "g(X)", none},
		},
		"b:2 f:5 a:2 2": {
			{"X", "a", none}, {"X", "b", none}, {"a", "b", greater}, {"f(X)", "f(a)", none}, {"f(X)", "a", greater}, {"f(a)", "X", none}, {"f(a)", "f(b)", greater}, {"f(X,a)", "f(X,b)", greater}, {"f(X,a)", "f(b,X)", none}, {"f(a,X)", "f(b,X)", greater}, {"f(a,b)", "f(b,X)", none}, {"a(a,a)", "f(b)", less}, {"a(a,b)", "f", greater},
		},
	})
}

func TestCompareLPO(t *testing.T) {
	const none, equal, greater, less = impl.OrderNone, impl.OrderEqual, impl.OrderGreater, impl.OrderLess
	checkComparisons(t, impl.CompareLPO, map[string][]comparison{
		"a:1 b:1 c:1 f:1 g:1 h:1 1": {
			// Variables.
			{"X", "X", equal}, {"X", "Y", none}, {"f(X)", "X", greater}, {"h(a,b,g(c,f(X)))", "X", greater}, {"X", "a", none}, {"X", "f(Y)", none}, {"h", "X", none}, {"h(a,Y)", "X", none}, {"f(X)", "f(Y)", none}, {"g(X,Y)", "g(Y,X)", none}, {"h(Y)", "f(X)", none},
			// An argument is equal to the other term or greater.
			{"f(g(X))", "g(X)", greater}, {"f(h(X))", "g(X)", greater}, {"f(f(f(h(X))))", "g(X)", greater}, {"f(a,b,h(X))", "g(f(X),a)", greater}, {"f(g(X),Y)", "g(X)", greater}, {"f(Y,g(X))", "g(X)", greater}, {"a(b)", "b", greater}, {"a(c)", "b", greater}, {"f(g(b,a))", "g(a,b)", greater}, {"f(f(a))", "f(a)", greater}, {"f(f(X,X))", "f(X,X)", greater}, {"f(f(X,X))", "f(X,a)", none}, {"g(X,h(a))", "g(b,a)", greater}, {"g(a,h(a))", "g(b,a)", greater},
			// The roots differ in their precedence.
			{"b", "a", greater}, {"f", "c", greater}, {"b", "a(a,a)", greater}, {"b", "a(X)", none}, {"g(X)", "f(X)", greater}, {"g(X)", "f(X,X)", greater}, {"g(X)", "f(f(f(f(X))))", greater}, {"h", "g(f(a))", greater}, {"h", "g(f(a),g(b,c))", greater}, {"h(X)", "g(f(X),g(X,c))", greater}, {"h(X,Y)", "g(Y,X)", greater}, {"h(X,Y)", "g(Y,f(g(X,a)))", greater}, {"h(X)", "g(X,Y)", none}, {"g(X,a)", "f(f(X))", greater}, {"h(X,Y)", "f(g(X,Y),g(Y,X),X)", greater},
			// They have equal symbols and different numbers of arguments.
			{"f(a,a)", "f(c)", greater}, {"f(X,X)", "f(X)", greater}, {"f(X,X)", "f(f(f(X)))", greater}, {"f(X,Y)", "f(Z)", none}, {"f(a,a,a)", "f(f(a,c),f(c,c))", greater}, {"f(a,a)", "f(g(a))", less}, {"f(a)", "f", greater}, {"f(f(c,c))", "f(a,a)", greater},
			// The first arguments that differ decide.
			{"f(b)", "f(a)", greater}, {"f(g(X))", "f(f(X))", greater}, {"g(b,a)", "g(a,b)", greater}, {"g(b,a)", "g(a,c)", greater}, {"g(c,a)", "g(a,b)", greater}, {"h(b,a,a)", "h(a,b,b)", greater}, {"h(a,c,a)", "h(a,b,b)", greater}, {"h(a,b,c)", "h(a,b,b)", greater}, {"h(a,b,c,f)", "h(a,b,c,c)", greater}, {"g(f(X),X)", "g(X,f(X))", greater}, {"g(f(X),Y)", "g(X,f(Y))", greater}, {"g(f(X),Y)", "g(X,h(Y))", none}, {"g(f(X),Y)", "g(X,Y)", greater}, {"g(X,f(Y))", "g(X,Y)", greater}, {"g(X,b)", "g(X,a)", greater}, {"g(f(X),a)", "g(X,f(f(f(f(X)))))", greater},
			{"g(g(X,Y),b)", "g(g(Y,X),a)", none}, {"g(g(X,Y),Z)", "g(X,g(Y,Z))", greater}, {"g(f(b),f(a))", "g(f(a),f(b))", greater}, {"f(f(f(b)))", "f(f(f(a)))", greater}, {"g(X,X)", "g(X,X)", equal}, {"f(g(b,h),X)", "f(g(b,h),X)", equal},
			// An argument of the other term is too great.
			{"g(a)", "f(h(a))", less}, {"g(a)", "f(X)", none}, {"g(X)", "f(X,Y)", none}, {"g(b,a)", "g(a,h(a))", less}, {"g(b,a)", "g(a,X)", none}, {"g(c,X)", "g(b,Y)", none}, {"h(b,X,a)", "h(a,Y,a)", none}, {"h(b,b,a)", "h(a,h(b,b,a),a)", less}, {"h(b,X,Y)", "h(a,h(X,Y,Z),a)", none}, {"g(b,X)", "g(a,h(X))", less}, {"g(f(X),b)", "g(X,g(f(X),b))", less}, {"f(X,X)", "f(h(X))", less}, {"f(X,X)", "f(g(Y))", none},
		},
		"c:1 h:1 g:1 f:1 b:1 a:1 1": {
			{"a", "b", greater}, {"g(X)", "f(X)", less}, {"g(X,a)", "f(f(X))", none}, {"f(X)", "g(X,X)", greater}, {"f(X)", "g(X,a)", none}, {"b", "h(c,c)", greater}, {"f(X)", "X", greater}, {"f(g(c))", "g(f(c))", greater},
		},
		// The weights do not matter.
		"a:100 b:50 c:10 f:9 g:2 h:1 1": {
			{"b", "a", greater}, {"h", "g(f(a),g(b,c))", greater}, {"f(a,a)", "f(c)", greater}, {"g(b,a)", "g(a,b)", greater}, {"X", "a", none}, {"f(X)", "X", greater},
		},
	})
}

func TestComparisonsFollowTheDefinitions(t *testing.T) {
	list := smallExpressions(4)
	for _, text := range []string{"b", "f", "g", "h", "f(b)", "f(a,a)", "f(X,a)", "f(a,X)", "f(X,Y)", "g(X)", "g(a)", "g(X,X,X)", "h(X)", "h(a,b)", "h(X,Y)", "a(X)", "g(f(f(X)),b)", "h(f(X),g(Y),b)", "f(g(X,Y),h(Y))"} {
		list = append(list, expr(text))
	}
	for _, o := range orderings() {
		known := map[[2]string]bool{}
		for i, s := range list {
			for _, e := range list[:i+1] {
				checkPair(t, o, s, e, known)
			}
		}
	}
	larger, known := smallExpressions(5), map[[2]string]bool{}
	for i, s := range larger {
		for _, e := range larger[:i+1] {
			checkPair(t, uniform(), s, e, known)
		}
	}
}

// randomOver is a term of at most the given size over few names, with any numbers of arguments.
func randomOver(source *rand.Rand, size int, depth int) impl.Term {
	leaves := []string{"X", "Y", "X", "a", "b", "f"}
	if size < 2 || depth < 2 || source.IntN(9) == 0 {
		return node(leaves[source.IntN(len(leaves))])
	}
	arity := 1 + source.IntN(min(size-1, impl.MaxArity))
	e := impl.Term{Name: "fghbf"[source.IntN(5):][:1]}
	for range arity {
		e.Args = append(e.Args, randomOver(source, (size-1)/arity, depth-1))
	}
	return e
}

// otherTerm is the term with one subterm replaced by another one.
func otherTerm(source *rand.Rand, e impl.Term) impl.Term {
	for {
		positions, _ := impl.Positions(e)
		r, ok := impl.ReplaceAt(e, positions[source.IntN(len(positions))], randomOver(source, 1+source.IntN(4), 3))
		if ok {
			return r
		}
	}
}

// randomOrdering has the symbols a, b, f, g and h in any order.
func randomOrdering(source *rand.Rand) impl.Ordering {
	o := impl.Ordering{Variable: 1 + source.IntN(3)}
	for _, i := range source.Perm(5) {
		o.Symbols, o.Weights = append(o.Symbols, "abfgh"[i:i+1]), append(o.Weights, o.Variable+source.IntN(3))
	}
	return o
}

func TestComparisonsOfGreatTerms(t *testing.T) {
	source := rand.New(rand.NewPCG(6, 1))
	counts := [2][4]int{}
	for range 20000 {
		o := randomOrdering(source)
		s := randomOver(source, 1+source.IntN(30), impl.MaxTermDepth)
		e := randomOver(source, 1+source.IntN(30), impl.MaxTermDepth)
		if source.IntN(3) > 0 {
			e = otherTerm(source, s)
		}
		checkPair(t, o, s, e, map[[2]string]bool{})
		kbo, _ := impl.CompareKBO(o, s, e)
		lpo, _ := impl.CompareLPO(o, s, e)
		counts[0][kbo]++
		counts[1][lpo]++
	}
	for _, count := range counts {
		if slices.Min(count[:]) < 500 {
			t.Error("the numbers of results are", counts)
		}
	}
}

// Of these terms, each case of the definition leads to the same subterms in hundreds of ways.
func TestPathComparisonsDoNotRepeatThemselves(t *testing.T) {
	deep := func(names string, last impl.Term) impl.Term {
		for _, name := range names {
			last = node(string(name), last)
		}
		return last
	}
	wide := node("f", slices.Repeat([]impl.Term{node("f", nodes("X", "X", "X", "X")...)}, 4)...)
	list := []impl.Term{
		deep("fffffff", node("X")), deep("fffffff", node("Y")), deep("ggggggg", node("X")), deep("ggggggg", node("Y")), deep("gfgfgfg", node("X")), deep("fgfgfgf", node("Y")),
		deep("fffff", wide), deep("ggggg", wide), deep("fgfgf", wide), deepAndWide(), bush(30), node("h", deepAndWide().Args[0], node("Y")),
	}
	o := ordering("f:1 g:1 h:1 1")
	for range 300 {
		for _, s := range list {
			for _, e := range list {
				if order, ok := impl.CompareLPO(o, s, e); !ok || (order == impl.OrderEqual) != same(s, e) {
					t.Fatalf("CompareLPO of %s and %s is %d, %v", termText(s), termText(e), order, ok)
				}
			}
		}
	}
	known := map[[2]string]bool{}
	for _, s := range list {
		for _, e := range list {
			checkPair(t, o, s, e, known)
		}
	}
}

var bothOrderings = []func(o impl.Ordering, s, t impl.Term) (int, bool){impl.CompareKBO, impl.CompareLPO}

// checkTransitive tests that what is greater than a greater one is greater, and what is equal to
// something compares in the same way. It returns how often that applies.
func checkTransitive[T any](t *testing.T, list []T, compare func(a, b T) int) int {
	t.Helper()
	orders, count := make([][]int, len(list)), 0
	for i, a := range list {
		for _, b := range list {
			orders[i] = append(orders[i], compare(a, b))
		}
		if orders[i][i] != impl.OrderEqual {
			t.Fatalf("%v is not equal to itself", a)
		}
	}
	for i := range list {
		for j := range list {
			if orders[i][j] != exchanged(orders[j][i]) {
				t.Fatalf("%v and %v are %s, but exchanged they are %s", list[i], list[j], orderNames[orders[i][j]], orderNames[orders[j][i]])
			}
			if orders[i][j] != impl.OrderGreater && orders[i][j] != impl.OrderEqual {
				continue
			}
			for k := range list {
				if orders[j][k] == impl.OrderGreater && orders[i][k] != impl.OrderGreater || orders[i][j] == impl.OrderEqual && orders[i][k] != orders[j][k] {
					t.Fatalf("%v and %v are %s, %v and %v are %s, but %v and %v are %s", list[i], list[j], orderNames[orders[i][j]], list[j], list[k], orderNames[orders[j][k]], list[i], list[k], orderNames[orders[i][k]])
				}
				if orders[i][j] == impl.OrderGreater && orders[j][k] == impl.OrderGreater {
					count++
				}
			}
		}
	}
	return count
}

func TestOrderingsAreTransitive(t *testing.T) {
	source := rand.New(rand.NewPCG(6, 2))
	for i, compare := range bothOrderings {
		for _, o := range orderings() {
			if count := checkTransitive(t, smallExpressions(4), func(a, b impl.Term) int { order, _ := compare(o, a, b); return order }); count < 500 {
				t.Error("only", count, "times by", orderingText(o), i)
			}
		}
		for range 10 {
			o, list := randomOrdering(source), []impl.Term{}
			for range 40 {
				e := randomOver(source, 1+source.IntN(20), 6)
				list = append(list, e, otherTerm(source, e))
			}
			if count := checkTransitive(t, list, func(a, b impl.Term) int { order, _ := compare(o, a, b); return order }); count < 100 {
				t.Error("only", count, "times by", orderingText(o), i)
			}
		}
	}
}

func TestTermsAreGreaterThanTheirSubterms(t *testing.T) {
	source, list := rand.New(rand.NewPCG(6, 3)), smallExpressions(5)
	for range 2000 {
		list = append(list, randomOver(source, 1+source.IntN(30), impl.MaxTermDepth))
	}
	for _, o := range append(orderings(), randomOrdering(source), randomOrdering(source)) {
		for _, e := range list {
			for _, position := range positionsOf(t, e)[1:] {
				for i, compare := range bothOrderings {
					if order, ok := compare(o, e, subtermOf(e, position)); order != impl.OrderGreater || !ok {
						t.Fatalf("%s and its subterm at %v are %d, %v by %s, %d", termText(e), position, order, ok, orderingText(o), i)
					}
				}
			}
		}
	}
}

// checkStable tests that greater terms remain greater with a substitution applied. It reports
// whether that applies.
func checkStable(t *testing.T, o impl.Ordering, s, e impl.Term, sigma impl.Substitution) bool {
	t.Helper()
	applies := false
	for i, compare := range bothOrderings {
		if order, _ := compare(o, s, e); order != impl.OrderGreater {
			continue
		}
		first, ok := impl.ApplySubstitution(sigma, s)
		second, fine := impl.ApplySubstitution(sigma, e)
		if !ok || !fine {
			continue
		}
		applies = true
		if order, ok := compare(o, first, second); order != impl.OrderGreater || !ok {
			t.Fatalf("%s is greater than %s by %s, %d, but %s and %s are %d, %v", termText(s), termText(e), orderingText(o), i, termText(first), termText(second), order, ok)
		}
	}
	return applies
}

func TestGreaterTermsHaveGreaterInstances(t *testing.T) {
	subs := []impl.Substitution{}
	for _, text := range []string{"X:=a", "X:=Y", "Y:=X", "X:=Y;Y:=X", "X:=f(Y);Y:=a", "X:=f(X)", "X:=g(X,X)", "X:=g(Y,a);Y:=f(X)", "X:=a;Y:=a", "X:=f(f(f(a)));Y:=X", "Y:=g(f(a),f(X))"} {
		subs = append(subs, sub(text))
	}
	for _, o := range orderings() {
		list := smallExpressions(4)
		for _, s := range list {
			for _, e := range list {
				for _, sigma := range subs {
					checkStable(t, o, s, e, sigma)
				}
			}
		}
	}
	source, count := rand.New(rand.NewPCG(6, 4)), 0
	for range 30000 {
		s := randomOver(source, 1+source.IntN(20), 5)
		e := otherTerm(source, s)
		sigma, _ := fromMap(map[string]impl.Term{"X": randomOver(source, 6, 4), "Y": randomOver(source, 6, 4)})
		if checkStable(t, randomOrdering(source), s, e, sigma) {
			count++
		}
	}
	if count < 3000 {
		t.Error("only", count, "instances")
	}
}

func TestOrderingsOfGroundTermsAreTotal(t *testing.T) {
	list := []impl.Term{}
	for _, e := range smallExpressions(5) {
		list = append(list, plainApply(map[string]impl.Term{"X": node("b"), "Y": node("f", node("a"), node("h"))}, e))
	}
	for _, o := range orderings() {
		for i, s := range list {
			for _, e := range list[:i] {
				for _, compare := range bothOrderings {
					if order, ok := compare(o, s, e); (order == impl.OrderEqual) != same(s, e) || order == impl.OrderNone || !ok {
						t.Fatalf("%s and %s are %d, %v by %s", termText(s), termText(e), order, ok, orderingText(o))
					}
				}
			}
		}
	}
}

func TestCompareMultisets(t *testing.T) {
	const none, equal, greater, less = impl.OrderNone, impl.OrderEqual, impl.OrderGreater, impl.OrderLess
	for _, c := range []comparison{
		// Empty lists.
		{"", "", equal}, {"a", "", greater}, {"X", "", greater}, {"X;Y;a", "", greater},
		// One element in each.
		{"a", "a", equal}, {"X", "X", equal}, {"b", "a", greater}, {"f(X)", "X", greater}, {"X", "Y", none}, {"f(X)", "f(Y)", none}, {"X", "a", none},
		// Several elements.
		{"f(X)", "X;X", greater}, {"f(X)", "X;a;b;X;c", greater}, {"f(X)", "X;Y", none}, {"f(X);f(Y)", "X;Y", greater}, {"f(X);f(Y)", "X;Y;a;X;Y", greater}, {"g(X,Y)", "f(X);f(Y)", greater}, {"f(X);f(Y)", "g(X,Y)", less}, {"f(X);a", "X;Y", none}, {"f(X);Y", "f(Y);X", none}, {"c;a", "b;b;b", greater}, {"c;a", "b;f", less}, {"f(a);X", "a;Y", none},
		// The order of the elements does not matter.
		{"a;b", "b;a", equal}, {"a;b;c", "c;a;b", equal}, {"X;Y;X", "Y;X;X", equal}, {"b;a", "a;a", greater}, {"a;b", "a;a", greater}, {"a;c;b", "b;c;b", less},
		// Elements occur in both, in the same or in different numbers.
		{"a;a", "a", greater}, {"a;a;a", "a;a", greater}, {"a;a;b", "a;b;b", less}, {"a;a;b", "a;b", greater}, {"a;b", "b", greater}, {"X;a", "a", greater}, {"X;a", "Y;a", none}, {"f(X);a", "f(Y);a", none}, {"f(X);a", "f(X);b", less}, {"f(X);X", "f(X);Y", none}, {"f(X);X", "f(X);X;X", less}, {"f(X);f(X)", "f(X);X;X;X", greater}, {"f(X);f(X);X", "f(X);X;X", greater}, {"b;b;a", "b;a;a", greater}, {"X;X", "X;Y", none}, {"X;X;Y", "X;Y;Y", none},
		// What both have does not stand for what is left.
		{"h(X,Y,Z);a", "h(X,Y,Z);b", less}, {"f(X);X;a", "f(X);X;b", less}, {"f(X);Y", "f(X);X", none}, {"f(X);f(X)", "f(X);X;Y", none}, {"f(X)", "f(X);X", less}, {"f(X);X", "f(X)", greater},
		// MaxTermList elements.
		{"a;a;a;a;a;a;a;a", "a;a;a;a;a;a;a;a", equal}, {"a;a;a;a;a;a;a;b", "b;a;a;a;a;a;a;a", equal}, {"a;a;a;a;a;a;a;b", "a;a;a;a;a;a;a;a", greater}, {"a;b;c;f;g;h;X;Y", "Y;X;h;g;f;c;b;a", equal}, {"b", "a;a;a;a;a;a;a;a", greater}, {"a;a;a;a;a;a;a;X", "a;a;a;a;a;a;a;Y", none}, {"X;X;X;X;X;X;X;X", "f(X)", less},
	} {
		a, b := terms(c.first), terms(c.second)
		if order, ok := impl.CompareMultisets(uniform(), a, b); order != c.want || !ok {
			t.Errorf("CompareMultisets of %s and %s is %d, %v instead of %s", c.first, c.second, order, ok, orderNames[c.want])
		}
		if order, ok := impl.CompareMultisets(uniform(), b, a); order != exchanged(c.want) || !ok {
			t.Errorf("CompareMultisets of %s and %s is %d, %v instead of %s", c.second, c.first, order, ok, orderNames[exchanged(c.want)])
		}
	}
}

func TestLengthsOfMultisets(t *testing.T) {
	for m := range 20 {
		for n := range 20 {
			a, b := slices.Repeat(nodes("b"), m), slices.Repeat(nodes("a"), n)
			order, ok := impl.CompareMultisets(uniform(), a, b)
			if fits := m <= impl.MaxTermList && n <= impl.MaxTermList; ok != fits || !ok && order != 0 {
				t.Errorf("CompareMultisets of %d and %d elements is %d, %v", m, n, order, ok)
			}
			if want := plainOrder(m+n == 0, m > 0, true); ok && order != want {
				t.Errorf("CompareMultisets of %d and %d elements is %d instead of %d", m, n, order, want)
			}
		}
	}
	if order, ok := impl.CompareMultisets(uniform(), make([]impl.Term, 1000000), nil); order != 0 || ok {
		t.Error(order, ok)
	}
}

// multisets lists the lists of at most the given length of the elements, which stay in order.
func multisets(length int, elements []impl.Term) [][]impl.Term {
	if length == 0 || len(elements) == 0 {
		return [][]impl.Term{{}}
	}
	list := multisets(length, elements[1:])
	for _, rest := range multisets(length-1, elements) {
		list = append(list, append([]impl.Term{elements[0]}, rest...))
	}
	return list
}

func TestMultisetsFollowTheDefinition(t *testing.T) {
	for _, o := range orderings() {
		list := multisets(3, terms("X;Y;a;f(X);f(a);g(X,Y)"))
		for i, a := range list {
			for _, b := range list[:i+1] {
				checkMultisets(t, o, a, b)
			}
		}
		if count := checkTransitive(t, list, func(a, b []impl.Term) int { order, _ := impl.CompareMultisets(o, a, b); return order }); count < 1000 {
			t.Error("only", count, "times")
		}
	}
	source, counts := rand.New(rand.NewPCG(6, 5)), [4]int{}
	for range 20000 {
		o, a, b := randomOrdering(source), []impl.Term{}, []impl.Term{}
		for range source.IntN(impl.MaxTermList + 1) {
			a = append(a, randomOver(source, 1+source.IntN(6), 4))
		}
		for _, e := range a {
			switch source.IntN(3) {
			case 0:
				e = otherTerm(source, e)
				fallthrough
			case 1:
				b = slices.Insert(b, source.IntN(len(b)+1), e)
			}
		}
		for len(b) < impl.MaxTermList && source.IntN(3) > 0 {
			b = append(b, randomOver(source, 1+source.IntN(4), 4))
		}
		counts[checkMultisets(t, o, a, b)]++
	}
	if slices.Min(counts[:]) < 300 {
		t.Error("the numbers of results are", counts)
	}
}

func TestAddingATermToBothMultisets(t *testing.T) {
	source, list := rand.New(rand.NewPCG(6, 6)), multisets(2, terms("X;Y;a;f(X);g(X,Y);g(a,X)"))
	for _, o := range orderings() {
		for _, a := range list {
			for _, b := range list {
				want, _ := impl.CompareMultisets(o, a, b)
				for _, e := range terms("X;Y;a;f(X);f(f(X));g(X,Y);g(f(X),g(Y,Y))") {
					more, further := slices.Insert(slices.Clone(a), source.IntN(len(a)+1), e), slices.Insert(slices.Clone(b), source.IntN(len(b)+1), e)
					if order, ok := impl.CompareMultisets(o, more, further); order != want || !ok {
						t.Fatalf("%s and %s are %s by %s, but with %s they are %d, %v", termTexts(a), termTexts(b), orderNames[want], orderingText(o), termText(e), order, ok)
					}
				}
			}
		}
	}
	for range 5000 {
		o, a, b := randomOrdering(source), []impl.Term{}, []impl.Term{}
		for range source.IntN(4) {
			a, b = append(a, randomOver(source, 4, 4)), append(b, randomOver(source, 4, 4))
		}
		want, _ := impl.CompareMultisets(o, a, b)
		for len(a) < impl.MaxTermList {
			e := randomOver(source, 12, 6)
			a, b = append(a, e), slices.Insert(b, 0, e)
			if order, ok := impl.CompareMultisets(o, a, b); order != want || !ok {
				t.Fatalf("%s and %s are %d, %v, but they were %s by %s", termTexts(a), termTexts(b), order, ok, orderNames[want], orderingText(o))
			}
		}
	}
}

func TestMultisetsOfOneElement(t *testing.T) {
	for _, o := range orderings() {
		for _, s := range smallExpressions(4) {
			for _, e := range smallExpressions(4) {
				want, _ := impl.CompareKBO(o, s, e)
				if order, ok := impl.CompareMultisets(o, []impl.Term{s}, []impl.Term{e}); order != want || !ok {
					t.Fatalf("%s and %s are %s, but their multisets %d, %v", termText(s), termText(e), orderNames[want], order, ok)
				}
			}
		}
	}
}

func TestOrderLiterals(t *testing.T) {
	const none, equal, greater, less = impl.OrderNone, impl.OrderEqual, impl.OrderGreater, impl.OrderLess
	for _, c := range []comparison{
		// The same atom.
		{"r", "r", equal}, {"~r", "~r", equal}, {"~r", "r", greater}, {"~p(X)", "p(X)", greater}, {"p(X)", "p(X)", equal}, {"~p(X,f(Y))", "p(X,f(Y))", greater}, {"a = b", "a = b", equal}, {"a != b", "a != b", equal}, {"a != b", "a = b", greater}, {"X != f(Y)", "X = f(Y)", greater}, {"X != X", "X = X", greater},
		// The sides of an equality are exchanged.
		{"a = b", "b = a", equal}, {"a != b", "b != a", equal}, {"a != b", "b = a", greater}, {"f(X) = Y", "Y = f(X)", equal}, {"X = Y", "Y = X", equal}, {"X != Y", "Y = X", greater}, {"f(a) != X", "X != f(a)", equal},
		// Predicates.
		{"q", "p", greater}, {"~p", "q", less}, {"~q", "~p", greater}, {"q", "~p", greater}, {"p(b)", "p(a)", greater}, {"p(b)", "~p(a)", greater}, {"p(a)", "q", greater}, {"p(X)", "p(Y)", none}, {"p(X)", "~p(Y)", none}, {"p(f(X))", "p(X)", greater}, {"p(f(X))", "~p(X)", greater}, {"~p(f(X))", "~p(X)", greater}, {"p(X)", "q", greater}, {"p(X)", "q(X)", less}, {"~p(X)", "q(X)", less}, {"p(X,Y)", "q(X)", greater}, {"p(X,Y)", "~q(X)", greater}, {"p(X,Y)", "p(Y,X)", none}, {"p(X,X)", "p(X,a)", none}, {"p(X,X)", "q(X)", greater},
		// Equalities.
		{"a = b", "a = a", greater}, {"a = c", "b = b", greater}, {"a = c", "b = c", less}, {"a = c", "b != b", greater}, {"a != a", "a = b", less}, {"a != b", "b = b", greater}, {"f(X) = X", "X = X", greater}, {"f(X) = X", "f(X) = a", none}, {"f(X) = X", "a = b", greater}, {"f(X) = X", "X = Y", none}, {"X = Y", "X = Z", none}, {"X = Y", "X = a", none}, {"f(X) = f(Y)", "X = Y", greater}, {"f(X) = f(Y)", "X != Y", greater}, {"f(X) = f(Y)", "g(X,Y) = a", less}, {"X != X", "X = a", none}, {"X != a", "X = X", greater}, {"X != a", "Y = Y", none},
		// An equality and a predicate.
		{"f(a) = b", "p(a)", less}, {"f(f(a)) = b", "p(a)", greater}, {"f(f(a)) = X", "p(a)", greater}, {"f(f(a)) = X", "p(X)", none}, {"f(f(X)) = X", "p(X)", greater}, {"f(f(X)) = X", "~p(X)", greater}, {"f(X) = X", "p(X)", less}, {"f(X) != X", "p(X)", less}, {"f(X) = X", "~p(X)", less}, {"X = Y", "r", none}, {"X = a", "r", none}, {"a = b", "r", less}, {"a = b", "~r", less}, {"a != b", "r", less}, {"f(a) = b", "r", greater}, {"X = Y", "p(X)", none}, {"X = Y", "p(X,Y)", less}, {"X != Y", "p(X,Y)", less}, {"f(a) = X", "r", greater}, {"f(a) != X", "~r", greater},
		// The special constant is less than any term.
		{"X = r", "r", greater}, {"r = a", "r", greater}, {"r = r", "r", greater}, {"r = X", "~r", none}, {"r != X", "~r", greater}, {"r != a", "~r", greater}, {"r = r", "~r", less}, {"r = a", "~r", less}, {"p(X) = Y", "p(X)", greater}, {"p(X) = a", "p(X)", greater}, {"p(X) != Y", "~p(X)", greater}, {"p(X) = p(X)", "~p(X)", less},
	} {
		a, b := literal(c.first), literal(c.second)
		if order, ok := impl.OrderLiterals(uniform(), a, b); order != c.want || !ok {
			t.Errorf("OrderLiterals of %s and %s is %d, %v instead of %s", c.first, c.second, order, ok, orderNames[c.want])
		}
		if order, ok := impl.OrderLiterals(uniform(), b, a); order != exchanged(c.want) || !ok {
			t.Errorf("OrderLiterals of %s and %s is %d, %v instead of %s", c.second, c.first, order, ok, orderNames[exchanged(c.want)])
		}
	}
}

// smallLiterals lists literals over X, Y, a, f and g.
func smallLiterals() []impl.Literal {
	list, sides := []impl.Literal{}, terms("X;Y;a;f(X);f(a);g(X,Y)")
	for _, e := range smallExpressions(4) {
		if !isVariable(e) {
			list = append(list, yes(e), no(e))
		}
	}
	for _, left := range sides {
		for _, right := range sides {
			list = append(list, yes(node("=", left, right)), no(node("=", left, right)))
		}
	}
	return list
}

// randomLiteral is a literal over few names.
func randomLiteral(source *rand.Rand) impl.Literal {
	for {
		l := impl.Literal{Positive: source.IntN(2) == 0, Atom: randomOver(source, 1+source.IntN(8), 5)}
		if source.IntN(2) == 0 {
			l.Atom = node("=", l.Atom, randomOver(source, 1+source.IntN(4), 4))
		}
		if impl.IsValidAtom(l.Atom) {
			return l
		}
	}
}

func TestLiteralsFollowTheDefinition(t *testing.T) {
	list := smallLiterals()
	for _, o := range orderings() {
		for i, a := range list {
			for _, b := range list[:i+1] {
				checkLiterals(t, o, a, b)
			}
		}
	}
	source, counts := rand.New(rand.NewPCG(6, 7)), [4]int{}
	for range 20000 {
		o, a, b := randomOrdering(source), randomLiteral(source), randomLiteral(source)
		if source.IntN(2) == 0 {
			b = impl.Literal{Positive: source.IntN(2) == 0, Atom: clone(a.Atom)}
			if i := source.IntN(len(b.Atom.Args) + 1); i < len(b.Atom.Args) {
				b.Atom.Args[i] = otherTerm(source, b.Atom.Args[i])
			}
			if a.Atom.Name == "=" && source.IntN(2) == 0 {
				slices.Reverse(b.Atom.Args)
			}
		}
		counts[checkLiterals(t, o, a, b)]++
	}
	if slices.Min(counts[:]) < 1000 {
		t.Error("the numbers of results are", counts)
	}
}

func TestLiteralsAreOrderedTransitively(t *testing.T) {
	source := rand.New(rand.NewPCG(6, 8))
	for i := range 20 {
		o, list := randomOrdering(source), smallLiterals()
		if i > 0 {
			list = nil
			for range 100 {
				list = append(list, randomLiteral(source))
			}
		}
		if count := checkTransitive(t, list, func(a, b impl.Literal) int { order, _ := impl.OrderLiterals(o, a, b); return order }); count < 1000 {
			t.Error("only", count, "times")
		}
	}
}

func TestMaximalLiterals(t *testing.T) {
	for _, c := range []struct {
		text string
		want []int
	}{
		{"", nil}, {"r", []int{0}}, {"~r", []int{0}}, {"X = Y", []int{0}},
		// Equal literals.
		{"r | r", []int{0, 1}}, {"p(a) | p(a) | p(a)", []int{0, 1, 2}}, {"p(a) | p(b) | p(a)", []int{1}}, {"p(b) | p(a) | p(b)", []int{0, 2}}, {"a = b | b = a", []int{0, 1}}, {"a = b | b != a | a != b", []int{1, 2}},
		// The same atom, positive and negative.
		{"~r | r", []int{0}}, {"r | ~r", []int{1}}, {"r | ~r | r | ~r", []int{1, 3}},
		// One maximal literal, anywhere.
		{"p | q | r", []int{2}}, {"r | q | p", []int{0}}, {"p | r | q", []int{1}}, {"p(X) | q(X) | a = X", []int{1}}, {"f(X) = X | a = b | X = X", []int{0}},
		// Several maximal literals.
		{"p(X) | p(Y)", []int{0, 1}}, {"p(X) | q(Y) | a = a", []int{0, 1}}, {"a = a | p(X) | q(Y)", []int{1, 2}}, {"p(X) | r | q(Y)", []int{0, 2}}, {"p(X) | p(f(X)) | q(Y) | q(X)", []int{1, 2}}, {"X = Y | r", []int{0, 1}}, {"X = Y | Y = Z | X = Z", []int{0, 1, 2}}, {"~p(X) | ~p(Y) | p(X) | p(Y) | q(X,Y)", []int{4}}, {"p(f(X)) | p(f(Y)) | q(X) | q(Y) | r", []int{0, 1}},
		// MaxTermList literals, in no order.
		{"p(a) | p(b) | p(c) | q(a) | q(b) | q(c) | r(a) | r(b)", []int{7}}, {"r(b) | p(a) | p(b) | p(c) | q(a) | q(b) | q(c) | r(a)", []int{0}}, {"r | r | r | r | r | r | r | r", []int{0, 1, 2, 3, 4, 5, 6, 7}}, {"p(X) | p(Y) | r | q | p | ~q | ~r | ~p", []int{0, 1}}, {"p(A) | p(B) | p(C) | p(D) | p(E) | p(F) | p(G) | p(H)", []int{0, 1, 2, 3, 4, 5, 6, 7}},
	} {
		if list, ok := impl.MaximalLiterals(uniform(), literalsOf(c.text)); !slices.Equal(list, c.want) || !ok {
			t.Errorf("MaximalLiterals of %s is %v, %v instead of %v", c.text, list, ok, c.want)
		}
		checkMaximal(t, uniform(), literalsOf(c.text))
	}
}

func TestLengthsOfClauses(t *testing.T) {
	for count := range 20 {
		c, want := impl.Clause{Literals: slices.Repeat([]impl.Literal{literal("r")}, count)}, []int{}
		if count > 0 && count <= impl.MaxTermList {
			c.Literals[count-1] = literal("p")
			want = []int{0, 1, 2, 3, 4, 5, 6}[:count-1]
		}
		if count == 1 {
			want = []int{0}
		}
		if list, ok := impl.MaximalLiterals(uniform(), c); !slices.Equal(list, want) || ok != (count <= impl.MaxTermList) {
			t.Errorf("MaximalLiterals of %d literals is %v, %v", count, list, ok)
		}
	}
	if list, ok := impl.MaximalLiterals(uniform(), impl.Clause{Literals: make([]impl.Literal, 1000000)}); len(list) != 0 || ok {
		t.Error(list, ok)
	}
}

func TestMaximalLiteralsFollowTheDefinition(t *testing.T) {
	source, several := rand.New(rand.NewPCG(6, 9)), 0
	for range 10000 {
		o, c := randomOrdering(source), impl.Clause{}
		for range source.IntN(impl.MaxTermList + 1) {
			c.Literals = append(c.Literals, randomLiteral(source))
		}
		checkMaximal(t, o, c)
		if list, _ := impl.MaximalLiterals(o, c); len(list) > 1 {
			several++
		}
	}
	if several < 2000 {
		t.Error("only", several, "clauses with several maximal literals")
	}
	list := smallLiterals()
	for i, a := range list {
		for j, b := range list {
			checkMaximal(t, uniform(), clauseOf(a, b, list[(i*7+j*3)%len(list)]))
		}
	}
}

func TestOrientEquation(t *testing.T) {
	for _, c := range []struct {
		text, want string
		isOriented bool
	}{
		{"f(X) = X", "f(X) = X", true}, {"X = f(X)", "f(X) = X", true}, {"b = a", "b = a", true}, {"a = b", "b = a", true}, {"f(a) = a", "f(a) = a", true}, {"a = f(a)", "f(a) = a", true}, {"g(X,Y) = f(X)", "g(X,Y) = f(X)", true}, {"f(Y) = g(X,Y)", "g(X,Y) = f(Y)", true}, {"g(X,f(Y)) = g(f(X),Y)", "g(f(X),Y) = g(X,f(Y))", true}, {"h(a,b,c) = h(a,c,b)", "h(a,c,b) = h(a,b,c)", true}, {"a = p(X)", "p(X) = a", true},
		{"f(X) = f(Y)", "f(X) = f(Y)", false}, {"f(Y) = f(X)", "f(Y) = f(X)", false}, {"g(X,Y) = g(Y,X)", "g(X,Y) = g(Y,X)", false}, {"X = Y", "X = Y", false}, {"X = a", "X = a", false}, {"a = X", "a = X", false}, {"f(X) = f(f(Y))", "f(X) = f(f(Y))", false}, {"f(f(Y)) = f(X)", "f(f(Y)) = f(X)", false}, {"h(a,b,X) = g(X,X)", "h(a,b,X) = g(X,X)", false},
		{"a = a", "a = a", false}, {"X = X", "X = X", false}, {"f(X) = f(X)", "f(X) = f(X)", false},
	} {
		if r, isOriented, ok := impl.OrientEquation(uniform(), expr(c.text)); !same(r, expr(c.want)) || isOriented != c.isOriented || !ok {
			t.Errorf("OrientEquation of %s is %s, %v, %v", c.text, termText(r), isOriented, ok)
		}
	}
	for _, sides := range [][2]impl.Term{{bush(28), node("X")}, {chain(7, node("X")), node("X")}, {bush(14), bush(15)}, {node("h"), bush(28)}} {
		checkOriented(t, uniform(), sides[0], sides[1])
		checkOriented(t, uniform(), sides[1], sides[0])
	}
	for _, o := range orderings() {
		for _, left := range smallExpressions(4) {
			for _, right := range smallExpressions(4) {
				checkOriented(t, o, left, right)
			}
		}
	}
	source := rand.New(rand.NewPCG(6, 10))
	for range 10000 {
		left := randomOver(source, 1+source.IntN(14), impl.MaxTermDepth-1)
		right := otherTerm(source, left)
		if impl.IsValidAtom(node("=", left, right)) {
			checkOriented(t, randomOrdering(source), left, right)
		}
	}
}

func TestEquationsThatAreNotOriented(t *testing.T) {
	for _, e := range []impl.Term{
		node("a"), node("X"), expr("f(X)"), node("=="), expr("p(f(X),X)"), expr("d = a"), expr("a = d"), expr("f(d) = X"), expr("X = f(g(d,a))"), expr("f(X) = d(X)"), node("="), node("=", node("a")), node("=", node("b"), node("a"), node("a")),
		node("=", node("=", node("b"), node("a")), node("a")), node("=", node("a"), node("=", node("b"), node("a"))), node("=", chain(8, node("X")), node("X")), node("=", node("X"), chain(8, node("X"))), node("=", bush(29), node("X")), node("=", bush(15), bush(15)),
	} {
		if r, isOriented, ok := impl.OrientEquation(uniform(), e); !isZero(r) || isOriented || ok {
			t.Errorf("OrientEquation of %v is %v, %v, %v", e, r, isOriented, ok)
		}
		for count := 1; count <= impl.MaxTermList; count++ {
			for at := range count {
				for _, other := range terms("f(X) = X;a = b") {
					rules := slices.Repeat([]impl.Term{other}, count)
					rules[at] = e
					if first, ok := impl.FirstNotDecreasing(uniform(), rules); first != 0 || ok {
						t.Errorf("FirstNotDecreasing of %v is %d, %v", rules, first, ok)
					}
				}
			}
		}
	}
}

func TestFirstNotDecreasing(t *testing.T) {
	for _, c := range []struct {
		text string
		want int
	}{
		{"", -1}, {"f(X) = X", -1}, {"X = f(X)", 0}, {"a = a", 0}, {"f(X) = f(Y)", 0}, {"a = b", 0}, {"b = a", -1}, {"X = X", 0}, {"f(a) = X", 0}, {"f(X) = a", -1},
		{"f(X) = X;b = a;g(X,Y) = f(Y)", -1}, {"X = f(X);b = a;g(X,Y) = f(Y)", 0}, {"f(X) = X;a = b;g(X,Y) = f(Y)", 1}, {"f(X) = X;b = a;f(Y) = g(X,Y)", 2}, {"f(X) = X;a = b;f(Y) = g(X,Y)", 1}, {"X = Y;a = b;f(Y) = g(X,Y)", 0}, {"b = a;b = a;a = a;b = a", 2}, {"b = a;b = a;f(X) = f(Y);X = a", 2}, {"b = a;c = b;c = a;f(b) = f(a)", -1},
		{"b = a;b = a;b = a;b = a;b = a;b = a;b = a;b = a", -1}, {"b = a;b = a;b = a;b = a;b = a;b = a;b = a;a = b", 7}, {"a = b;b = a;b = a;b = a;b = a;b = a;b = a;a = b", 0}, {"a = b;a = b;a = b;a = b;a = b;a = b;a = b;a = b", 0},
	} {
		if first, ok := impl.FirstNotDecreasing(uniform(), terms(c.text)); first != c.want || !ok {
			t.Errorf("FirstNotDecreasing of %s is %d, %v instead of %d", c.text, first, ok, c.want)
		}
	}
	for count := range 20 {
		first, ok := impl.FirstNotDecreasing(uniform(), slices.Repeat(terms("f(X) = X"), count))
		if fits := count <= impl.MaxTermList; ok != fits || ok && first != -1 || !ok && first != 0 {
			t.Errorf("FirstNotDecreasing of %d rules is %d, %v", count, first, ok)
		}
	}
	if first, ok := impl.FirstNotDecreasing(uniform(), make([]impl.Term, 1000000)); first != 0 || ok {
		t.Error(first, ok)
	}
}

// rewritten replaces an instance of a first side in e by that of the second side, and reports
// whether there is one.
func rewritten(t *testing.T, rules []impl.Term, e impl.Term) (impl.Term, bool) {
	for _, position := range positionsOf(t, e) {
		for _, rule := range rules {
			m, ok := impl.MatchTerms(rule.Args[0], subtermOf(e, position))
			if !ok {
				continue
			}
			r, fine := impl.ApplySubstitution(m, rule.Args[1])
			if r, ok = impl.ReplaceAt(e, position, r); ok && fine {
				return r, true
			}
		}
	}
	return e, false
}

func TestDecreasingRulesTerminate(t *testing.T) {
	source, steps := rand.New(rand.NewPCG(6, 11)), 0
	for range 3000 {
		o, rules := randomOrdering(source), []impl.Term{}
		for len(rules) < 4 {
			rule, isOriented, ok := impl.OrientEquation(o, node("=", randomOver(source, 1+source.IntN(5), 4), randomOver(source, 1+source.IntN(5), 4)))
			if isOriented && ok {
				rules = append(rules, rule)
			}
		}
		if first, ok := impl.FirstNotDecreasing(o, rules); first != -1 || !ok {
			t.Fatalf("FirstNotDecreasing by %s of %s is %d, %v", orderingText(o), termTexts(rules), first, ok)
		}
		for e := randomOver(source, 20, impl.MaxTermDepth); ; steps++ {
			r, ok := rewritten(t, rules, e)
			if !ok {
				break
			}
			if order, fine := impl.CompareKBO(o, e, r); order != impl.OrderGreater || !fine {
				t.Fatalf("the rules %s decrease by %s, but %s becomes %s", termTexts(rules), orderingText(o), termText(e), termText(r))
			}
			e = r
		}
	}
	if steps < 1000 {
		t.Error("only", steps, "steps")
	}
}

func TestUncoveredSymbols(t *testing.T) {
	o := ordering("a:1 aa:1 f:1 g:1 p:1 1")
	for _, text := range []string{"b", "f(b)", "f(f(f(b)))", "g(a,b)", "g(X,f(b))", "b(a)", "aaa", "a_", "a0", "g(f(X),h(X))", "p(a,a,a,b)", "ff(a)", "z"} {
		e := expr(text)
		checkNoTerm(t, o, e)
		if order, ok := impl.CompareKBO(o, e, e); order != 0 || ok {
			t.Errorf("CompareKBO of %s with itself is %d, %v", text, order, ok)
		}
		if order, ok := impl.CompareLPO(o, e, e); order != 0 || ok {
			t.Errorf("CompareLPO of %s with itself is %d, %v", text, order, ok)
		}
		for _, atom := range []impl.Term{e, node("=", e, node("a")), node("=", node("X"), e)} {
			checkNoAtom(t, o, atom)
		}
	}
	// A symbol that only the Symbols contain, or the same symbol with any number of arguments.
	for _, text := range []string{"aa", "f(aa,a)", "g", "a(X)", "f(f,f(f),f(f,f))", "Zabc"} {
		if order, ok := impl.CompareKBO(o, expr(text), expr(text)); order != impl.OrderEqual || !ok {
			t.Errorf("CompareKBO of %s with itself is %d, %v", text, order, ok)
		}
		if order, ok := impl.CompareLPO(o, expr(text), expr(text)); order != impl.OrderEqual || !ok {
			t.Errorf("CompareLPO of %s with itself is %d, %v", text, order, ok)
		}
	}
}

// checkNoTerm tests the functions that compare terms with one that is not valid or not covered.
func checkNoTerm(t *testing.T, o impl.Ordering, e impl.Term) {
	t.Helper()
	if weight, ok := impl.TermWeight(o, e); weight != 0 || ok {
		t.Errorf("TermWeight of %s: %d, %v", e.Name, weight, ok)
	}
	for _, other := range terms("X;a;f(a)") {
		for _, pair := range [][2]impl.Term{{e, other}, {other, e}} {
			if order, ok := impl.CompareKBO(o, pair[0], pair[1]); order != 0 || ok {
				t.Errorf("CompareKBO of %s: %d, %v", e.Name, order, ok)
			}
			if order, ok := impl.CompareLPO(o, pair[0], pair[1]); order != 0 || ok {
				t.Errorf("CompareLPO of %s: %d, %v", e.Name, order, ok)
			}
		}
	}
	for _, count := range []int{1, 2, impl.MaxTermList} {
		for at := range count {
			list := slices.Repeat(nodes("X"), count)
			list[at] = e
			for _, pair := range [][2][]impl.Term{{list, nil}, {nil, list}, {list, nodes("X")}, {nodes("a"), list}, {list, list}} {
				if order, ok := impl.CompareMultisets(o, pair[0], pair[1]); order != 0 || ok {
					t.Errorf("CompareMultisets with %s: %d, %v", e.Name, order, ok)
				}
			}
		}
	}
}

// checkNoAtom tests the functions that compare literals with an atom that is not valid or not
// covered.
func checkNoAtom(t *testing.T, o impl.Ordering, e impl.Term) {
	t.Helper()
	for _, l := range []impl.Literal{yes(e), no(e)} {
		for _, pair := range [][2]impl.Literal{{l, literal("a")}, {literal("~a"), l}, {l, l}, {literal("X = a"), l}} {
			if order, ok := impl.OrderLiterals(o, pair[0], pair[1]); order != 0 || ok {
				t.Errorf("OrderLiterals of %s: %d, %v", e.Name, order, ok)
			}
		}
		for _, count := range []int{1, 2, impl.MaxTermList} {
			for at := range count {
				list := slices.Repeat([]impl.Literal{literal("a")}, count)
				list[at] = l
				if maximal, ok := impl.MaximalLiterals(o, impl.Clause{Literals: list}); len(maximal) != 0 || ok {
					t.Errorf("MaximalLiterals with %s: %v, %v", e.Name, maximal, ok)
				}
			}
		}
	}
	if r, isOriented, ok := impl.OrientEquation(o, e); !isZero(r) || isOriented || ok {
		t.Errorf("OrientEquation of %s: %v, %v, %v", e.Name, r, isOriented, ok)
	}
	if first, ok := impl.FirstNotDecreasing(o, []impl.Term{expr("f(X) = X"), e}); first != 0 || ok {
		t.Errorf("FirstNotDecreasing with %s: %d, %v", e.Name, first, ok)
	}
}

func TestInvalidTermsAreNotCompared(t *testing.T) {
	o := ordering("a:1 b:1 f:1 g:1 h:1 p:1 q:1 abcdef:1 ff:1 a0:1 beyond:1 1")
	for _, e := range append(invalidTerms(), unboundedTerms()...) {
		checkNoTerm(t, o, e)
		checkNoAtom(t, o, e)
	}
	for _, text := range []string{"a = a", "f(X) = X", "X = Y"} {
		checkNoTerm(t, o, expr(text))
	}
	for _, l := range []impl.Literal{{}, yes(node("X")), no(node("X")), yes(node("Zabc")), {Positive: true}} {
		for _, other := range []impl.Literal{literal("a"), literal("X = a"), l} {
			for _, pair := range [][2]impl.Literal{{l, other}, {other, l}} {
				if order, ok := impl.OrderLiterals(o, pair[0], pair[1]); order != 0 || ok {
					t.Errorf("OrderLiterals of %v: %d, %v", l, order, ok)
				}
				if list, ok := impl.MaximalLiterals(o, clauseOf(pair[:]...)); len(list) != 0 || ok {
					t.Errorf("MaximalLiterals with %v: %v, %v", l, list, ok)
				}
			}
		}
	}
}

// invalidOrderings lists orderings that are invalid for one reason each.
func invalidOrderings() []impl.Ordering {
	list := []impl.Ordering{{}, {Variable: 1}, {Symbols: []string{"a", "f"}, Variable: 1}, {Weights: []int{1, 1}, Variable: 1}, {Symbols: []string{"a", "f"}, Weights: []int{1, 1}}, {Symbols: []string{}, Weights: []int{}, Variable: 1}}
	for _, text := range []string{
		"1", "a:1 f:1 a:1 1", "a:1 a:1 f:1 1", "a:1 f:1 f:1 1", "a:1 f:1 =:1 1", "=:1 a:1 f:1 1", "a:1 f:1 X:1 1", "a:1 f:1 true:1 1", "a:1 f:1 some:1 1", "a:1 f:1 F:1 1", "a:1 f:1 _:1 1", "a:1 f:1 abcdefg:1 1", "a:1 f:1 !=:1 1", "a:1 f:1 ~:1 1",
		"a:1 f:1 0", "a:1 f:1 -1", "a:101 f:101 101", "a:100 f:100 101", "a:1 f:1 2", "a:2 f:1 2", "a:1 f:2 2", "a:1 f:101 1", "a:101 f:1 1", "a:1 f:0 1", "a:-1 f:1 1", "a:99 f:100 100", "a:0 f:0 0", "a:-1 f:-1 -1",
		"a:1 b:1 c:1 d:1 e:1 f:1 g:1 h:1 i:1 j:1 k:1 l:1 m:1 1",
	} {
		list = append(list, ordering(text))
	}
	for _, o := range []impl.Ordering{uniform(), ordering("a:1 f:1 1"), orderingOf(impl.MaxSymbols)} {
		shorter, longer, empty := cloneOrdering(o), cloneOrdering(o), cloneOrdering(o)
		shorter.Weights = shorter.Weights[1:]
		longer.Weights = append(longer.Weights, 1)
		empty.Symbols[0] = ""
		list = append(list, shorter, longer, empty)
	}
	many := impl.Ordering{Symbols: make([]string, 1000000), Weights: make([]int, 1000000), Variable: 1}
	long := ordering("a:1 f:1 " + strings.Repeat("f", 100000) + ":1 1")
	return append(list, many, long)
}

func TestInvalidOrderingsCompareNothing(t *testing.T) {
	for i, o := range invalidOrderings() {
		if impl.IsValidOrdering(o) {
			t.Errorf("ordering %d is valid", i)
		}
		for _, e := range terms("X;a;f(X);f(a)") {
			checkNoTerm(t, o, e)
			if order, ok := impl.CompareKBO(o, e, e); order != 0 || ok {
				t.Errorf("CompareKBO by ordering %d: %d, %v", i, order, ok)
			}
			if order, ok := impl.CompareLPO(o, e, e); order != 0 || ok {
				t.Errorf("CompareLPO by ordering %d: %d, %v", i, order, ok)
			}
		}
		for _, e := range terms("a;f(X);f(X) = X;X = Y;a = a") {
			checkNoAtom(t, o, e)
		}
		if order, ok := impl.CompareMultisets(o, nil, nil); order != 0 || ok {
			t.Errorf("CompareMultisets by ordering %d: %d, %v", i, order, ok)
		}
		if list, ok := impl.MaximalLiterals(o, impl.Clause{}); len(list) != 0 || ok {
			t.Errorf("MaximalLiterals by ordering %d: %v, %v", i, list, ok)
		}
		if first, ok := impl.FirstNotDecreasing(o, nil); first != 0 || ok {
			t.Errorf("FirstNotDecreasing by ordering %d: %d, %v", i, first, ok)
		}
	}
}

// orderingWithRoom copies an ordering so that its lists have elements beyond their lengths. They
// would be further symbols.
func orderingWithRoom(o impl.Ordering) impl.Ordering {
	r := cloneOrdering(o)
	r.Symbols, r.Weights = append(r.Symbols, "beyond", "further"), append(r.Weights, 1, 1)
	r.Symbols, r.Weights = r.Symbols[:len(o.Symbols)], r.Weights[:len(o.Weights)]
	return r
}

// isOrderingKept reports whether r is still as orderingWithRoom has made it from o.
func isOrderingKept(r, o impl.Ordering) bool {
	symbols, weights := r.Symbols[:len(o.Symbols)+2], r.Weights[:len(o.Weights)+2]
	return slices.Equal(symbols, append(slices.Clone(o.Symbols), "beyond", "further")) && slices.Equal(weights, append(slices.Clone(o.Weights), 1, 1)) && r.Variable == o.Variable
}

// clauseWithRoom copies a clause so that its lists have elements beyond their lengths.
func clauseWithRoom(c impl.Clause) impl.Clause {
	room := []impl.Literal{}
	for _, l := range c.Literals {
		room = append(room, impl.Literal{Positive: l.Positive, Atom: withRoom(l.Atom)})
	}
	room = append(room, yes(node("beyond")), no(node("beyond")))
	return impl.Clause{Literals: room[:len(c.Literals)]}
}

// isClauseKept reports whether r is still as clauseWithRoom has made it from c.
func isClauseKept(r, c impl.Clause) bool {
	all := impl.Clause{Literals: r.Literals[:len(r.Literals)+2]}
	return sameClause(all, clauseOf(append(slices.Clone(c.Literals), yes(node("beyond")), no(node("beyond")))...)) &&
		!slices.ContainsFunc(r.Literals, func(l impl.Literal) bool { return !roomIsKept(l.Atom) })
}

func TestOrderedArgumentsAreNotChanged(t *testing.T) {
	source := rand.New(rand.NewPCG(6, 12))
	invalid := invalidOrderings()[:30]
	for i := range 3000 {
		o, a, b, c := randomOrdering(source), []impl.Term{}, []impl.Term{}, impl.Clause{}
		if i%20 == 0 {
			o = invalid[i/20%len(invalid)]
		}
		for range 1 + source.IntN(impl.MaxTermList+1) {
			e := randomOver(source, 1+source.IntN(8), 4)
			a, b, c.Literals = append(a, e), append(b, otherTerm(source, e)), append(c.Literals, randomLiteral(source))
		}
		rules := []impl.Term{}
		for i := range a {
			rules = append(rules, node("=", a[i], b[i]))
		}
		slices.Reverse(b)
		order, first, second, clause, equations := orderingWithRoom(o), listWithRoom(a...), listWithRoom(b...), clauseWithRoom(c), listWithRoom(rules...)
		impl.IsValidOrdering(order)
		impl.TermWeight(order, first[0])
		impl.CompareKBO(order, first[0], second[0])
		impl.CompareLPO(order, first[0], second[0])
		impl.CompareMultisets(order, first, second)
		impl.OrderLiterals(order, clause.Literals[0], clause.Literals[len(clause.Literals)-1])
		impl.MaximalLiterals(order, clause)
		impl.OrientEquation(order, equations[0])
		impl.FirstNotDecreasing(order, equations)
		if !isOrderingKept(order, o) || !isListKept(first, a...) || !isListKept(second, b...) || !isClauseKept(clause, c) || !isListKept(equations, rules...) {
			t.Fatalf("%s, %s, %s, %s or %s is changed", orderingText(o), termTexts(a), termTexts(b), clauseText(c), termTexts(rules))
		}
	}
}

func TestOrderingsBeyondTheLengthAreNotRead(t *testing.T) {
	for _, o := range append(orderings(), orderingOf(impl.MaxSymbols), orderingOf(1)) {
		room := orderingWithRoom(o)
		if !impl.IsValidOrdering(room) {
			t.Errorf("%s is invalid with elements beyond the lengths", orderingText(o))
		}
		checkNoTerm(t, room, node("beyond"))
		checkNoAtom(t, room, node("beyond"))
	}
	for _, o := range invalidOrderings() {
		if impl.IsValidOrdering(orderingWithRoom(o)) {
			t.Errorf("%.100s is valid with elements beyond the lengths", orderingText(o))
		}
	}
	source := rand.New(rand.NewPCG(6, 13))
	for range 3000 {
		o, a, b, c := orderingWithRoom(randomOrdering(source)), []impl.Term{}, []impl.Term{}, impl.Clause{}
		for range 1 + source.IntN(impl.MaxTermList) {
			e := randomOver(source, 1+source.IntN(8), 4)
			a, b, c.Literals = append(a, e), append(b, otherTerm(source, e)), append(c.Literals, randomLiteral(source))
		}
		a, b, c = listWithRoom(a...), listWithRoom(b...), clauseWithRoom(c)
		checkPair(t, o, a[0], b[0], map[[2]string]bool{})
		checkMultisets(t, o, a, b)
		checkLiterals(t, o, c.Literals[0], c.Literals[len(c.Literals)-1])
		checkMaximal(t, o, c)
		checkOriented(t, o, a[0], b[0])
		if weight, ok := impl.TermWeight(o, a[0]); weight != plainWeight(o, a[0]) || !ok {
			t.Fatalf("the weight of %s by %s is %d, %v", termText(a[0]), orderingText(o), weight, ok)
		}
		e := withRoom(node("=", a[0], b[0]))
		want, isOriented, _ := impl.OrientEquation(o, clone(e))
		if r, yes, ok := impl.OrientEquation(o, e); !same(r, want) || yes != isOriented || !ok {
			t.Fatalf("OrientEquation of %s is %s, %v, %v", termText(e), termText(r), yes, ok)
		}
	}
}

func TestOrderingResultsAreInNewMemory(t *testing.T) {
	for _, left := range smallExpressions(4) {
		for _, right := range smallExpressions(4) {
			checkNewTerm(t, func() (impl.Term, func() bool, func()) {
				o, e := orderingWithRoom(uniform()), withRoom(node("=", left, right))
				r, _, _ := impl.OrientEquation(o, e)
				return r, func() bool { return same(e, node("=", left, right)) && roomIsKept(e) && isOrderingKept(o, uniform()) }, func() { spoil(&e); clear(o.Symbols) }
			})
		}
	}
	one := node("g", node("f", node("Z")), node("a"))
	two := node("g", one, one)
	for depth := range 3 {
		for _, pair := range [][2]impl.Term{{one, one}, {two, one}, {one, two}, {two, two}, {node("h", one, one, one), two}} {
			r, _, ok := impl.OrientEquation(uniform(), node("=", pair[0], pair[1]))
			if !ok {
				t.Fatal(termText(pair[0]), termText(pair[1]))
			}
			checkSeparate(t, "OrientEquation", partsOf(subOf(bind("X", r)), depth+1)...)
		}
	}
	for range 3 {
		list, ok := impl.MaximalLiterals(uniform(), literalsOf("p(X) | r | q(Y) | p(Y)"))
		if !slices.Equal(list, []int{0, 2}) || !ok {
			t.Fatal(list, ok)
		}
		for i := range list[:cap(list)] {
			list[:cap(list)][i] = -1
		}
	}
}
