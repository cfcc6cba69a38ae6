package tests

import (
	"cmp"
	"reflect"
	"regexp"
	"slices"
	"strings"
	"testing"

	"loop.example/g00892/impl"
)

var reservedWords = []string{"true", "false", "truth", "both", "either", "if", "all", "some"}

func node(name string, args ...impl.Term) impl.Term {
	return impl.Term{Name: name, Args: args}
}

// chain is a term of the given depth in which every node but the last one is an f.
func chain(depth int, last impl.Term) impl.Term {
	for ; depth > 1; depth-- {
		last = node("f", last)
	}
	return last
}

// bush is a term of the given size that is as flat as possible.
func bush(size int) impl.Term {
	rest := size - 1
	width := min(rest, impl.MaxArity)
	t := node("h")
	for ; width > 0; width-- {
		part := (rest + width - 1) / width
		t.Args = append(t.Args, bush(part))
		rest -= part
	}
	return t
}

// deepAndWide is a term of MaxTermSize nodes that has the depth MaxTermDepth, too.
func deepAndWide() impl.Term {
	return node("g", chain(impl.MaxTermDepth-1, node("X")), bush(impl.MaxTermSize-impl.MaxTermDepth))
}

// clone copies a finite Term without the program.
func clone(t impl.Term) impl.Term {
	c := impl.Term{Name: t.Name}
	for _, arg := range t.Args {
		c.Args = append(c.Args, clone(arg))
	}
	return c
}

// withRoom copies a finite Term so that its lists have elements beyond their lengths.
func withRoom(t impl.Term) impl.Term {
	room := []impl.Term{}
	for _, arg := range t.Args {
		room = append(room, withRoom(arg))
	}
	room = append(room, node("beyond"), node("beyond"))
	return impl.Term{Name: t.Name, Args: room[:len(t.Args)]}
}

// roomIsKept reports whether the elements beyond the lengths are as withRoom has made them.
func roomIsKept(t impl.Term) bool {
	all := t.Args[:len(t.Args)+2]
	for _, arg := range all[len(t.Args):] {
		if arg.Name != "beyond" || arg.Args != nil {
			return false
		}
	}
	return !slices.ContainsFunc(t.Args, func(arg impl.Term) bool { return !roomIsKept(arg) })
}

// spoil changes every name of a Term and every element beyond the lengths of its lists.
func spoil(t *impl.Term) {
	t.Name = "spoilt"
	for i := range t.Args {
		spoil(&t.Args[i])
	}
	for i := len(t.Args); i < cap(t.Args); i++ {
		t.Args[:cap(t.Args)][i] = node("spoilt")
	}
}

// same compares two finite Terms without the program.
func same(a, b impl.Term) bool {
	return a.Name == b.Name && slices.EqualFunc(a.Args, b.Args, same)
}

func isZero(t impl.Term) bool {
	return t.Name == "" && len(t.Args) == 0
}

// ascending lists expressions in the order of the document, each less than the next one.
func ascending() []impl.Term {
	a, b, x, y := node("a"), node("b"), node("X"), node("Y")
	return []impl.Term{
		node("A"), node("G"), node("G0"), node("G1"), node("G10"), node("Ga"), x, node("X0"), y, node("Z"), node("Zzzz"),
		node("=", x, x), node("=", x, y), node("=", y, x), node("=", y, a), node("=", a, x), node("=", a, a), node("=", a, b),
		node("=", a, node("f", a)), node("=", b, a), node("=", node("f", x), x),
		a, node("a", x), node("a", a), node("a", x, y), node("a0"), node("a_"), node("aa"), b,
		node("f"), node("f", x), node("f", y), node("f", a), node("f", node("f", x)), node("f", node("f", a)), node("f", node("g")),
		node("f", x, x), node("f", x, y), node("f", x, a), node("f", y, x), node("f", a, b), node("f", node("a", x), x), node("f", b, a),
		node("f", x, x, x), node("f", x, x, a), node("f", x, a, x), node("f", a, x, x), node("f", x, x, x, x), node("f", a, a, a, b),
		node("g"), node("g", x), node("ga", x), node("z"), node("zzzzzz"),
	}
}

// expressions lists valid terms and atoms, among them the greatest ones.
func expressions() []impl.Term {
	x, y, a := node("X"), node("Y"), node("a")
	return append(ascending(),
		node("f", a, node("g", x)), node("g", x, node("g", y, x)), node("f", x, x, node("f", x), node("h", y, a, x)),
		node("=", node("f", a, node("g", x)), node("h", x, y, a, y)), node("p", node("Zab9"), node("V"), node("A"), node("Zab9")),
		chain(impl.MaxTermDepth, x), chain(impl.MaxTermDepth, a), bush(impl.MaxTermSize), deepAndWide(),
		node("=", chain(impl.MaxTermDepth-1, x), y), node("=", x, chain(impl.MaxTermDepth-1, a)),
		node("=", bush(1), bush(impl.MaxTermSize-2)), node("=", bush(impl.MaxTermSize-2), x),
		node("=", bush(14), bush(15)), node("q", node("abcdef"), node("a_9z__")),
	)
}

// endless is a Term whose arguments contain it again after the given number of steps.
func endless(names ...string) impl.Term {
	ring := make([][]impl.Term, len(names))
	for i, name := range names {
		ring[i] = []impl.Term{{Name: name}}
	}
	for i := range ring {
		ring[i][0].Args = ring[(i+1)%len(ring)]
	}
	return ring[0][0]
}

// shared is a Term with 2 to the power of depth leaves that needs little memory.
func shared(depth int, leaf impl.Term) impl.Term {
	for range depth {
		leaf = node("f", leaf, leaf)
	}
	return leaf
}

// invalidTerms lists finite Terms that are neither terms nor atoms.
func invalidTerms() []impl.Term {
	x, a := node("X"), node("a")
	list := []impl.Term{
		{}, node("", a), node("X", a), node("X", x, x), node("f", node("X", a)), node("f", a, node("g", node("Y", x))),
		node("="), node("=", a), node("=", a, a, a), node("=", x, x, x, x), node("=", node("=", a, a), a), node("=", a, node("=", a, a)),
		node("f", node("=", a, a)), node("f", a, node("g", node("=", x, x))), node("f", node("=")), node("=", node("X", a), a),
		node("=", a, node("")), node("==", a, a), node("!=", a, a), node("~", a), node("= ", a, a), node("f", node("")),
		node("f", a, a, a, a, a), node("f", node("f", a, a, a, a, a)), node("=", a, node("f", a, a, a, a, a)), node("f", slices.Repeat([]impl.Term{a}, 1000)...),
		chain(impl.MaxTermDepth+1, x), chain(impl.MaxTermDepth+1, a), chain(1000, a), bush(impl.MaxTermSize + 1), bush(1000),
		node("=", chain(impl.MaxTermDepth, x), a), node("=", a, chain(impl.MaxTermDepth, a)),
		node("=", bush(14), bush(16)), node("=", x, bush(impl.MaxTermSize-1)), node("g", deepAndWide()), node("=", a, deepAndWide()),
	}
	for _, name := range append([]string{
		"Xabcd", "XY", "X_", "X-", "X ", "XA", "abcdefg", "aB", "a-b", "a ", " a", "_a", "_", "1", "1a", "0", "-", "$false", "a.b", "a'", "\x00", "a\x00",
		"\u00e9", "a\u00e9", "X\u00e9", "\xff", "a\xff", "f(a)", "a,b", strings.Repeat("a", 5000), strings.Repeat("X", 5000),
	}, reservedWords...) {
		list = append(list, node(name), node(name, a), node("f", node(name)), node("=", a, node(name)), node("f", a, node("g", x, node(name, x))))
	}
	return list
}

// unboundedTerms lists invalid Terms that contain themselves, or have too many nodes to visit.
func unboundedTerms() []impl.Term {
	wide := endless("f")
	wide.Args = slices.Repeat(wide.Args, 100)
	return []impl.Term{
		endless("f"), endless("="), endless("X"), endless("f", "g"), node("=", endless("f"), endless("g")), node("=", node("a"), endless("f")),
		shared(200, node("a")), shared(200, endless("f")), wide, chain(200000, node("a")), node("f", make([]impl.Term, 1000000)...),
	}
}

// subtermOf follows a position without the program.
func subtermOf(t impl.Term, position []int) impl.Term {
	for _, i := range position {
		t = t.Args[i]
	}
	return t
}

func positionsOf(t *testing.T, e impl.Term) [][]int {
	t.Helper()
	list, ok := impl.Positions(e)
	if !ok {
		t.Fatalf("Positions(%v) fails", e)
	}
	return list
}

func TestLimitsOfTerms(t *testing.T) {
	if impl.MaxTermSize != 30 || impl.MaxTermDepth != 8 || impl.MaxArity != 4 {
		t.Error(impl.MaxTermSize, impl.MaxTermDepth, impl.MaxArity)
	}
}

func TestNames(t *testing.T) {
	variable := regexp.MustCompile(`^[A-Z][a-z0-9]{0,3}$`)
	symbol := regexp.MustCompile(`^[a-z][a-z0-9_]{0,5}$`)
	names := append(stringsOver("aZ0_=", 7), reservedWords...)
	for c := range 256 {
		s := string([]byte{byte(c)})
		for _, name := range []string{s, s + "a", "a" + s, "X" + s, "Xab" + s, "Xabc" + s, "abcde" + s, "abcdef" + s, "ab" + s + "def", "X" + s + "bc"} {
			names = append(names, name)
		}
	}
	for _, word := range reservedWords {
		names = append(names, word+"s", word+"_", word[:len(word)-1], "n"+word, strings.ToUpper(word[:1])+word[1:])
	}
	for _, name := range names {
		isSymbol := symbol.MatchString(name) && !slices.Contains(reservedWords, name)
		isVariable := variable.MatchString(name)
		if impl.IsValidTerm(node(name)) != (isSymbol || isVariable) || impl.IsValidAtom(node(name)) != isSymbol {
			t.Fatalf("the name %q alone", name)
		}
		if impl.IsValidTerm(node(name, node("X"))) != isSymbol || impl.IsValidAtom(node(name, node("X"))) != isSymbol {
			t.Fatalf("the name %q with an argument", name)
		}
		if impl.IsValidTerm(node("f", node(name))) != (isSymbol || isVariable) {
			t.Fatalf("the name %q below a symbol", name)
		}
	}
}

func TestValidTermsAndAtoms(t *testing.T) {
	for _, e := range expressions() {
		isVariable := 'A' <= e.Name[0] && e.Name[0] <= 'Z'
		if impl.IsValidTerm(e) != (e.Name != "=") || impl.IsValidAtom(e) == isVariable {
			t.Errorf("%v: term %v, atom %v", e, impl.IsValidTerm(e), impl.IsValidAtom(e))
		}
	}
	for _, e := range invalidTerms() {
		if impl.IsValidTerm(e) || impl.IsValidAtom(e) {
			t.Errorf("%v: term %v, atom %v", e, impl.IsValidTerm(e), impl.IsValidAtom(e))
		}
	}
}

func TestLimitsAreMetExactly(t *testing.T) {
	for size := 1; size <= 40; size++ {
		e := bush(size)
		n, ok := impl.TermSize(e)
		if size <= impl.MaxTermSize && (n != size || !ok) || size > impl.MaxTermSize && (n != 0 || ok) {
			t.Errorf("TermSize of %d nodes is %d, %v", size, n, ok)
		}
		n, ok = impl.TermSize(node("=", node("X"), e))
		if size+2 <= impl.MaxTermSize && (n != size+2 || !ok) || size+2 > impl.MaxTermSize && (n != 0 || ok) {
			t.Errorf("TermSize of an equality of %d nodes is %d, %v", size+2, n, ok)
		}
	}
	for depth := 1; depth <= 12; depth++ {
		for _, e := range []impl.Term{chain(depth, node("a")), chain(depth, node("X")), node("=", node("X"), chain(max(1, depth-1), node("a")))} {
			want := depth
			if e.Name == "=" {
				want = max(2, depth)
			}
			n, ok := impl.TermDepth(e)
			if want <= impl.MaxTermDepth && (n != want || !ok) || want > impl.MaxTermDepth && (n != 0 || ok) {
				t.Errorf("TermDepth of %v is %d, %v", e, n, ok)
			}
		}
	}
	for arity := 0; arity <= 8; arity++ {
		args := slices.Repeat([]impl.Term{node("X")}, arity)
		if impl.IsValidTerm(node("f", args...)) != (arity <= impl.MaxArity) || impl.IsValidAtom(node("f", args...)) != (arity <= impl.MaxArity) {
			t.Error("f with", arity, "arguments")
		}
		if impl.IsValidTerm(node("=", args...)) || impl.IsValidAtom(node("=", args...)) != (arity == 2) {
			t.Error("= with", arity, "arguments")
		}
		if impl.IsValidTerm(node("X", args...)) != (arity == 0) || impl.IsValidAtom(node("X", args...)) {
			t.Error("X with", arity, "arguments")
		}
	}
}

func TestSizeAndDepth(t *testing.T) {
	for _, c := range []struct {
		e           impl.Term
		size, depth int
	}{
		{node("X"), 1, 1}, {node("a"), 1, 1}, {node("f", node("X")), 2, 2}, {node("=", node("X"), node("a")), 3, 2},
		{node("f", node("a"), node("g", node("X"))), 4, 3}, {node("f", node("g", node("X")), node("a")), 4, 3},
		{node("=", node("a"), node("g", node("g", node("X")))), 5, 4}, {deepAndWide(), 30, 8}, {bush(30), 30, 4},
	} {
		if n, ok := impl.TermSize(c.e); n != c.size || !ok {
			t.Errorf("TermSize(%v) = %d, %v", c.e, n, ok)
		}
		if n, ok := impl.TermDepth(c.e); n != c.depth || !ok {
			t.Errorf("TermDepth(%v) = %d, %v", c.e, n, ok)
		}
	}
}

func TestEqualTerms(t *testing.T) {
	all := append(expressions(), invalidTerms()...)
	for i, a := range all {
		for j, b := range all {
			if impl.EqualTerms(a, b) != same(a, b) {
				t.Fatalf("EqualTerms(%v, %v)", a, b)
			}
			if i == j && !impl.EqualTerms(a, clone(b)) {
				t.Fatalf("%v and a copy of it differ", a)
			}
		}
	}
	if !impl.EqualTerms(impl.Term{Name: "a", Args: nil}, impl.Term{Name: "a", Args: []impl.Term{}}) {
		t.Error("a nil slice and an empty slice differ")
	}
}

func TestEqualTermsComparesLargeTerms(t *testing.T) {
	for _, e := range []impl.Term{chain(200, node("a")), bush(200), node("f", slices.Repeat([]impl.Term{node("X")}, 200)...), shared(9, node("X", node("a")))} {
		for _, position := range [][]int{{}, {0}, {len(e.Args) - 1}, {len(e.Args) - 1, len(e.Args[len(e.Args)-1].Args) - 1}} {
			if len(position) > 0 && position[len(position)-1] < 0 {
				continue
			}
			other := clone(e)
			changed := &other
			for _, i := range position {
				changed = &changed.Args[i]
			}
			if !impl.EqualTerms(e, other) {
				t.Errorf("%d arguments: a copy differs", len(e.Args))
			}
			changed.Name += "x"
			if impl.EqualTerms(e, other) || impl.EqualTerms(other, e) {
				t.Errorf("%d arguments: a name at %v does not count", len(e.Args), position)
			}
			changed.Name = changed.Name[:len(changed.Name)-1]
			changed.Args = append(changed.Args, node("a"))
			if impl.EqualTerms(e, other) || impl.EqualTerms(other, e) {
				t.Errorf("%d arguments: an argument at %v does not count", len(e.Args), position)
			}
		}
	}
}

func TestEqualTermsReturnsForUnboundedTerms(t *testing.T) {
	for _, c := range []struct {
		a, b impl.Term
		want bool
	}{
		{endless("f"), endless("f"), true}, {endless("f"), endless("g"), false}, {endless("f"), endless("f", "f", "f"), true},
		{endless("f", "f"), endless("f", "f", "f"), true}, {endless("f", "g"), endless("f", "g", "f", "g"), true},
		{endless("f", "g"), endless("g", "f"), false}, {endless("f", "g"), endless("f", "g", "f"), false},
		{endless("f"), node("f", endless("f")), true}, {endless("f"), node("f", endless("g")), false}, {node("g", endless("f")), endless("f"), false},
		{endless("f"), chain(1000, node("a")), false}, {chain(1000, node("a")), endless("f"), false}, {endless("f"), chain(5, node("a")), false},
		{chain(5, node("a")), endless("f"), false}, {endless(""), endless(""), true},
		{shared(200, node("a")), shared(200, node("a")), true}, {shared(200, node("a")), shared(200, node("b")), false},
		{shared(200, node("a")), shared(199, node("a")), false}, {shared(200, node("a")), node("f", shared(199, node("a")), shared(199, node("a"))), true},
		{shared(200, node("a")), node("f", shared(199, node("a")), shared(199, node("b"))), false},
		{shared(200, endless("f", "g")), shared(200, endless("f", "g", "f", "g")), true}, {shared(200, endless("f")), shared(200, endless("g")), false},
		{chain(200000, node("a")), chain(200000, node("a")), true}, {chain(200000, node("a")), chain(200000, node("b")), false},
		{chain(200000, node("a")), chain(200001, node("a")), false},
		{endless(slices.Repeat([]string{"f"}, 20000)...), endless(slices.Repeat([]string{"f"}, 20001)...), true},
		{node("f", make([]impl.Term, 1000000)...), node("f", make([]impl.Term, 1000000)...), true},
		{node("f", make([]impl.Term, 1000000)...), node("f", make([]impl.Term, 999999)...), false},
	} {
		if impl.EqualTerms(c.a, c.b) != c.want || impl.EqualTerms(c.b, c.a) != c.want {
			t.Errorf("EqualTerms of %s.. and %s.. is not %v", c.a.Name, c.b.Name, c.want)
		}
	}
}

func TestEqualTermsReadsLengthsOfSharedMemory(t *testing.T) {
	args := slices.Repeat([]impl.Term{chain(10, node("a"))}, 3)
	a, b := node("f", node("g", args[:2]...), node("g", args[:2]...)), node("f", node("g", args[:2]...), node("g", args...))
	if impl.EqualTerms(a, b) || impl.EqualTerms(b, a) || !impl.EqualTerms(b, clone(b)) {
		t.Error("lists of one start but of several lengths")
	}
	last := slices.Concat(args[:2], []impl.Term{node("b")})
	copied := clone(node("g", args...)).Args
	for _, order := range [][3]int{{0, 1, 2}, {2, 1, 0}, {1, 0, 2}} {
		lists := [][2][]impl.Term{{last, copied}, {args[:2], last[:2]}, {args, copied}}
		a, b := node("f"), node("f")
		for _, i := range order {
			a.Args = append(a.Args, node("g", lists[i][0]...))
			b.Args = append(b.Args, node("g", lists[i][1]...))
		}
		if impl.EqualTerms(a, b) || impl.EqualTerms(b, a) {
			t.Error("the equality of shorter lists stands for that of longer ones", order)
		}
	}
}

func TestTermVariables(t *testing.T) {
	for _, c := range []struct {
		e    impl.Term
		want []string
	}{
		{node("X"), []string{"X"}}, {node("a"), nil}, {node("f", node("Y"), node("X"), node("Y")), []string{"X", "Y"}},
		{node("=", node("Z"), node("f", node("Y"), node("Z"), node("A1"))), []string{"A1", "Y", "Z"}},
		{node("f", node("G10"), node("G2"), node("G"), node("Ga")), []string{"G", "G10", "G2", "Ga"}},
		{node("=", node("a"), node("b")), nil}, {deepAndWide(), []string{"X"}}, {bush(30), nil},
		{node("p", node("q", node("D"), node("C")), node("B"), node("r", node("s", node("A"))), node("B")), []string{"A", "B", "C", "D"}},
	} {
		if names, ok := impl.TermVariables(c.e); !slices.Equal(names, c.want) || !ok {
			t.Errorf("TermVariables(%v) = %q, %v", c.e, names, ok)
		}
	}
}

func TestCompareTermsExamples(t *testing.T) {
	a, b := node("a"), node("b")
	for _, c := range []struct {
		a, b impl.Term
		want int
	}{
		{node("X"), a, -1}, {node("f", a, b), node("f", b, a), -1}, {a, node("X"), 1}, {node("f", b, a), node("f", a, b), 1}, {a, a, 0},
		{node("X"), node("=", a, a), -1}, {node("=", a, a), node("X"), 1}, {node("=", a, a), node("=", a, a), 0}, {node("g", a), node("f", a, b), 1},
	} {
		if got, ok := impl.CompareTerms(c.a, c.b); got != c.want || !ok {
			t.Errorf("CompareTerms(%v, %v) = %d, %v", c.a, c.b, got, ok)
		}
	}
}

func TestCompareTermsFollowsTheOrder(t *testing.T) {
	list := ascending()
	for i, a := range list {
		for j, b := range list {
			if got, ok := impl.CompareTerms(a, clone(b)); got != cmp.Compare(i, j) || !ok {
				t.Errorf("CompareTerms(%v, %v) = %d, %v", a, b, got, ok)
			}
		}
	}
}

func TestCompareTermsIsTotalOrder(t *testing.T) {
	list := expressions()
	for _, a := range list {
		for _, b := range list {
			ab, ok := impl.CompareTerms(a, b)
			ba, fine := impl.CompareTerms(b, a)
			if !ok || !fine || ab != -ba || (ab == 0) != same(a, b) || ab < -1 || ab > 1 {
				t.Fatalf("%v and %v are compared as %d and %d", a, b, ab, ba)
			}
			for _, c := range list {
				bc, _ := impl.CompareTerms(b, c)
				if ac, _ := impl.CompareTerms(a, c); ab <= 0 && bc <= 0 && ac > min(ab, bc) {
					t.Fatalf("%v, %v and %v are not in order", a, b, c)
				}
			}
		}
	}
}

func TestCompareTermsRejectsOneInvalidSide(t *testing.T) {
	for _, e := range invalidTerms() {
		for _, other := range []impl.Term{node("X"), node("f", node("a"), node("b")), node("=", node("a"), node("X")), e} {
			if c, ok := impl.CompareTerms(e, other); c != 0 || ok {
				t.Errorf("CompareTerms(%v, %v) = %d, %v", e, other, c, ok)
			}
			if c, ok := impl.CompareTerms(other, e); c != 0 || ok {
				t.Errorf("CompareTerms(%v, %v) = %d, %v", other, e, c, ok)
			}
		}
	}
}

func TestSubtermAt(t *testing.T) {
	x, a := node("X"), node("a")
	e := node("f", a, node("g", x))
	eq := node("=", node("g", x), a)
	for _, c := range []struct {
		e        impl.Term
		position []int
		want     impl.Term
	}{
		{e, []int{1, 0}, x}, {e, []int{}, e}, {e, nil, e}, {e, []int{0}, a}, {e, []int{1}, node("g", x)},
		{eq, nil, eq}, {eq, []int{0}, node("g", x)}, {eq, []int{0, 0}, x}, {eq, []int{1}, a}, {x, nil, x},
		{chain(8, x), make([]int, 7), x}, {deepAndWide(), []int{0, 0, 0, 0, 0, 0, 0}, x},
	} {
		if s, ok := impl.SubtermAt(c.e, c.position); !same(s, c.want) || !ok {
			t.Errorf("SubtermAt(%v, %v) = %v, %v", c.e, c.position, s, ok)
		}
	}
}

// outsidePositions lists lists of indices that are no positions of f(a,g(X)) or g(X) = a.
func outsidePositions() [][]int {
	return [][]int{
		{2}, {3}, {-1}, {1, 1}, {0, 0, 0}, {1, 0, 0}, {0, 1}, {1, -1}, {-1, 0}, {1, 0, -1}, {0, 0, -1}, {2, 0}, {1 << 62}, {-1 << 63}, {1<<63 - 1}, {0, 1 << 62},
		make([]int, 9), make([]int, 100000),
	}
}

func TestPositionsOutsideAreRejected(t *testing.T) {
	x, a := node("X"), node("a")
	for _, e := range []impl.Term{node("f", a, node("g", x)), node("=", node("g", x), a)} {
		for _, position := range outsidePositions() {
			if s, ok := impl.SubtermAt(e, position); !isZero(s) || ok {
				t.Errorf("SubtermAt(%v, %v) = %v, %v", e, position, s, ok)
			}
			if s, ok := impl.ReplaceAt(e, position, a); !isZero(s) || ok {
				t.Errorf("ReplaceAt(%v, %v) = %v, %v", e, position, s, ok)
			}
		}
	}
	for _, leaf := range []impl.Term{x, a} {
		for _, position := range [][]int{{0}, {-1}, {1}, {0, 0}} {
			if s, ok := impl.SubtermAt(leaf, position); !isZero(s) || ok {
				t.Errorf("SubtermAt(%v, %v) = %v, %v", leaf, position, s, ok)
			}
			if s, ok := impl.ReplaceAt(leaf, position, a); !isZero(s) || ok {
				t.Errorf("ReplaceAt(%v, %v) = %v, %v", leaf, position, s, ok)
			}
		}
	}
}

func TestReplaceAt(t *testing.T) {
	x, a, b := node("X"), node("a"), node("b")
	e := node("f", a, node("g", x))
	eq := node("=", node("g", x), a)
	for _, c := range []struct {
		e        impl.Term
		position []int
		s, want  impl.Term
	}{
		{e, []int{0}, x, node("f", x, node("g", x))}, {e, []int{1}, b, node("f", a, b)}, {e, []int{1, 0}, e, node("f", a, node("g", e))},
		{e, nil, x, x}, {e, []int{}, b, b}, {x, nil, e, e}, {a, nil, bush(30), bush(30)}, {bush(30), nil, chain(8, x), chain(8, x)},
		{eq, nil, x, x}, {eq, []int{}, node("h", x, a), node("h", x, a)}, {eq, []int{0}, a, node("=", a, a)}, {eq, []int{1}, e, node("=", node("g", x), e)},
		{eq, []int{0, 0}, eq.Args[0], node("=", node("g", node("g", x)), a)},
		{chain(4, x), []int{0, 0, 0}, chain(5, a), chain(8, a)}, {node("=", x, chain(4, x)), []int{1, 0, 0, 0}, chain(4, a), node("=", x, chain(7, a))},
		{node("f", x, bush(20)), []int{0}, bush(9), node("f", bush(9), bush(20))}, {node("=", bush(9), x), []int{1}, bush(20), node("=", bush(9), bush(20))},
	} {
		if r, ok := impl.ReplaceAt(c.e, c.position, c.s); !same(r, c.want) || !ok {
			t.Errorf("ReplaceAt(%v, %v, %v) = %v, %v", c.e, c.position, c.s, r, ok)
		}
	}
}

func TestReplaceAtRejects(t *testing.T) {
	x, a := node("X"), node("a")
	eq := node("=", a, x)
	for _, c := range []struct {
		e        impl.Term
		position []int
		s        impl.Term
	}{
		{chain(4, x), []int{0, 0, 0}, chain(6, a)}, {node("=", x, chain(4, x)), []int{1, 0, 0, 0}, chain(5, a)}, {chain(8, x), make([]int, 7), node("g", a)},
		{node("f", x, bush(20)), []int{0}, bush(10)}, {node("=", bush(9), x), []int{1}, bush(21)}, {bush(30), []int{0}, bush(30)}, {bush(30), []int{3, 3}, bush(9)},
		{a, nil, eq}, {eq, nil, eq}, {eq, nil, node("=", a, a)}, {eq, []int{0}, eq}, {node("f", a), []int{0}, eq},
	} {
		if r, ok := impl.ReplaceAt(c.e, c.position, c.s); !isZero(r) || ok {
			t.Errorf("ReplaceAt(%v, %v, %v) = %v, %v", c.e, c.position, c.s, r, ok)
		}
	}
	for _, s := range invalidTerms() {
		for _, position := range [][]int{nil, {0}, {1}} {
			if r, ok := impl.ReplaceAt(node("f", a, x), position, s); !isZero(r) || ok {
				t.Errorf("ReplaceAt at %v by %v = %v, %v", position, s, r, ok)
			}
		}
	}
}

func TestPositions(t *testing.T) {
	x, a := node("X"), node("a")
	for _, c := range []struct {
		e    impl.Term
		want [][]int
	}{
		{x, [][]int{{}}}, {a, [][]int{{}}}, {node("f", a, node("g", x)), [][]int{{}, {0}, {1}, {1, 0}}},
		{node("f", node("g", x), a), [][]int{{}, {0}, {0, 0}, {1}}}, {node("=", a, node("f", x, x)), [][]int{{}, {0}, {1}, {1, 0}, {1, 1}}},
		{node("f", node("g", node("h", a), x), node("h", a), a, x), [][]int{{}, {0}, {0, 0}, {0, 0, 0}, {0, 1}, {1}, {1, 0}, {2}, {3}}},
		{chain(4, x), [][]int{{}, {0}, {0, 0}, {0, 0, 0}}},
	} {
		if list := positionsOf(t, c.e); !slices.EqualFunc(list, c.want, slices.Equal) {
			t.Errorf("Positions(%v) = %v", c.e, list)
		}
	}
}

func TestPositionsDenoteAllSubterms(t *testing.T) {
	for _, e := range expressions() {
		list := positionsOf(t, e)
		if size, _ := impl.TermSize(e); len(list) != size || !slices.IsSortedFunc(list, slices.Compare) {
			t.Errorf("Positions(%v) = %v", e, list)
		}
		for i, position := range list {
			if i > 0 && slices.Equal(list[i-1], position) {
				t.Errorf("Positions(%v) repeats %v", e, position)
			}
			s, ok := impl.SubtermAt(e, position)
			if !same(s, subtermOf(e, position)) || !ok {
				t.Errorf("SubtermAt(%v, %v) = %v, %v", e, position, s, ok)
			}
			if s, ok := impl.SubtermAt(e, append(slices.Clone(position), len(s.Args))); !isZero(s) || ok {
				t.Errorf("%v has a subterm behind the arguments at %v", e, position)
			}
		}
	}
}

func TestReplacingBySelfChangesNothing(t *testing.T) {
	for _, e := range expressions() {
		for _, position := range positionsOf(t, e) {
			s, _ := impl.SubtermAt(e, position)
			r, ok := impl.ReplaceAt(e, position, s)
			if len(position) == 0 && e.Name == "=" {
				// An equality as a whole is no term, so that nothing can be replaced by it.
				if !isZero(r) || ok {
					t.Errorf("%v is replaced by itself", e)
				}
				continue
			}
			if !same(r, e) || !ok {
				t.Errorf("replacing at %v of %v by itself gives %v, %v", position, e, r, ok)
			}
		}
	}
}

func TestReplacedSubtermsAreFound(t *testing.T) {
	for _, e := range expressions() {
		for _, position := range positionsOf(t, e) {
			for _, s := range []impl.Term{node("New"), node("new"), node("new", node("a"), node("New")), chain(4, node("a")), chain(8, node("a")), bush(10), bush(30)} {
				checkReplaced(t, e, position, s)
			}
		}
	}
}

// checkReplaced tests one replacement.
func checkReplaced(t *testing.T, e impl.Term, position []int, s impl.Term) {
	t.Helper()
	want := clone(e)
	at := &want
	for _, i := range position {
		at = &at.Args[i]
	}
	*at = s
	size, depth := sizeAndDepth(want)
	fits := size <= impl.MaxTermSize && depth <= impl.MaxTermDepth
	r, ok := impl.ReplaceAt(e, position, s)
	if ok != fits || fits && !same(r, want) || !fits && !isZero(r) {
		t.Fatalf("ReplaceAt(%v, %v, %v) = %v, %v", e, position, s, r, ok)
	}
	if got, ok := impl.SubtermAt(r, position); fits && (!same(got, s) || !ok) {
		t.Fatalf("at %v of %v there is %v instead of %v", position, r, got, s)
	}
}

// sizeAndDepth measures a finite Term without the program.
func sizeAndDepth(t impl.Term) (int, int) {
	size, below := 1, 0
	for _, arg := range t.Args {
		n, depth := sizeAndDepth(arg)
		size, below = size+n, max(below, depth)
	}
	return size, below + 1
}

func TestCountSymbol(t *testing.T) {
	x, a := node("X"), node("a")
	e := node("f", x, node("f", x, x), a)
	eq := node("=", node("f", a), node("f", x, a))
	for _, c := range []struct {
		e    impl.Term
		name string
		want int
	}{
		{e, "X", 3}, {e, "f", 2}, {e, "a", 1}, {e, "b", 0}, {e, "", 0}, {e, "=", 0}, {e, "Xa", 0}, {e, "not a name", 0}, {e, "true", 0},
		{eq, "=", 1}, {eq, "a", 2}, {eq, "f", 2}, {eq, "X", 1}, {x, "X", 1}, {x, "x", 0}, {a, "a", 1}, {bush(30), "h", 30}, {deepAndWide(), "f", 6},
		{e, strings.Repeat("f", 5000), 0},
	} {
		if n, ok := impl.CountSymbol(c.e, c.name); n != c.want || !ok {
			t.Errorf("CountSymbol(%v, %q) = %d, %v", c.e, c.name, n, ok)
		}
	}
	for _, e := range expressions() {
		size, _ := impl.TermSize(e)
		names := []string{}
		for _, position := range positionsOf(t, e) {
			names = append(names, subtermOf(e, position).Name)
		}
		slices.Sort(names)
		for _, name := range slices.Compact(names) {
			n, _ := impl.CountSymbol(e, name)
			size -= n
		}
		if size != 0 {
			t.Errorf("the nodes of %v are not counted once each", e)
		}
	}
}

func TestInvalidTermsGiveZeroValues(t *testing.T) {
	for i, e := range append(invalidTerms(), unboundedTerms()...) {
		if impl.IsValidTerm(e) || impl.IsValidAtom(e) {
			t.Error("valid:", i, e.Name)
		}
		if n, ok := impl.TermSize(e); n != 0 || ok {
			t.Error("TermSize:", i, e.Name, n, ok)
		}
		if n, ok := impl.TermDepth(e); n != 0 || ok {
			t.Error("TermDepth:", i, e.Name, n, ok)
		}
		if l, ok := impl.TermVariables(e); len(l) != 0 || ok {
			t.Error("TermVariables:", i, e.Name, l, ok)
		}
		if l, ok := impl.Positions(e); len(l) != 0 || ok {
			t.Error("Positions:", i, e.Name, l, ok)
		}
		if c, ok := impl.CompareTerms(e, e); c != 0 || ok {
			t.Error("CompareTerms:", i, e.Name, c, ok)
		}
		if c, ok := impl.CompareTerms(node("a"), e); c != 0 || ok {
			t.Error("CompareTerms:", i, e.Name, c, ok)
		}
		for _, name := range []string{"a", "X", "=", "", e.Name} {
			if n, ok := impl.CountSymbol(e, name); n != 0 || ok {
				t.Error("CountSymbol:", i, e.Name, n, ok)
			}
		}
		for _, position := range [][]int{nil, {0}, {1}, {0, 0}, {-1}} {
			if s, ok := impl.SubtermAt(e, position); !isZero(s) || ok {
				t.Error("SubtermAt:", i, e.Name, s, ok)
			}
			if s, ok := impl.ReplaceAt(e, position, node("a")); !isZero(s) || ok {
				t.Error("ReplaceAt:", i, e.Name, s, ok)
			}
			if s, ok := impl.ReplaceAt(node("f", node("a"), node("X")), position, e); !isZero(s) || ok {
				t.Error("ReplaceAt by it:", i, e.Name, s, ok)
			}
		}
	}
}

// callAll calls every function of the chapter with the arguments.
func callAll(a, b impl.Term, position []int) {
	impl.IsValidTerm(a)
	impl.IsValidAtom(a)
	impl.EqualTerms(a, b)
	impl.TermSize(a)
	impl.TermDepth(a)
	impl.TermVariables(a)
	impl.CompareTerms(a, b)
	impl.SubtermAt(a, position)
	impl.ReplaceAt(a, position, b)
	impl.Positions(a)
	impl.CountSymbol(a, "f")
}

func TestArgumentsAreNotChanged(t *testing.T) {
	all := append(expressions(), invalidTerms()...)
	for _, e := range all {
		for _, s := range []impl.Term{node("new", node("X"), node("a")), e, bush(31)} {
			for _, position := range [][]int{{}, {0}, {1, 0}, {5}} {
				a, b := withRoom(e), withRoom(s)
				p := append(slices.Clone(position), 7, 7)
				callAll(a, b, p[:len(position)])
				if !same(a, e) || !same(b, s) || !roomIsKept(a) || !roomIsKept(b) || !slices.Equal(p, append(slices.Clone(position), 7, 7)) {
					t.Fatalf("%v, %v or %v is changed", e, s, position)
				}
			}
		}
	}
}

func TestElementsBeyondTheLengthAreNotRead(t *testing.T) {
	for _, e := range expressions() {
		a := withRoom(e)
		if impl.IsValidTerm(a) != impl.IsValidTerm(e) || impl.IsValidAtom(a) != impl.IsValidAtom(e) || !impl.EqualTerms(a, e) || !impl.EqualTerms(e, a) {
			t.Errorf("%v is something else with elements beyond the lengths", e)
		}
		if l, _ := impl.Positions(a); !slices.EqualFunc(l, positionsOf(t, e), slices.Equal) {
			t.Errorf("%v has more positions with elements beyond the lengths", e)
		}
	}
}

func TestSubtermsAreInNewMemory(t *testing.T) {
	for _, e := range expressions() {
		for _, position := range positionsOf(t, e) {
			a := withRoom(e)
			s, _ := impl.SubtermAt(a, position)
			want := clone(subtermOf(e, position))
			spoil(&s)
			if !same(a, e) || !roomIsKept(a) {
				t.Fatalf("the subterm at %v shares memory with %v", position, e)
			}
			s, _ = impl.SubtermAt(a, position)
			spoil(&a)
			if !same(s, want) {
				t.Fatalf("the subterm at %v shares memory with %v", position, e)
			}
		}
	}
}

func TestReplacementsAreInNewMemory(t *testing.T) {
	for _, e := range expressions() {
		for _, position := range positionsOf(t, e) {
			for _, s := range []impl.Term{node("new"), node("new", node("h", node("X")), node("X"))} {
				a, b := withRoom(e), withRoom(s)
				r, ok := impl.ReplaceAt(a, position, b)
				if !ok {
					continue
				}
				want := clone(r)
				spoil(&r)
				if !same(a, e) || !same(b, s) || !roomIsKept(a) || !roomIsKept(b) {
					t.Fatalf("the result for %v at %v and %v shares memory with them", e, position, s)
				}
				r, _ = impl.ReplaceAt(a, position, b)
				spoil(&a)
				spoil(&b)
				if !same(r, want) {
					t.Fatalf("the result for %v at %v and %v shares memory with them", e, position, s)
				}
			}
		}
	}
}

func TestResultsOfSharedArgumentsAreSeparate(t *testing.T) {
	one := node("g", node("X"), node("g", node("a")))
	e := node("f", one, one)
	for _, position := range [][]int{nil, {0}} {
		s, _ := impl.SubtermAt(node("k", e, e), append([]int{1}, position...))
		r, _ := impl.ReplaceAt(node("k", e, e), append([]int{0}, position...), one)
		for _, result := range []*impl.Term{&s, &r} {
			last := clone(result.Args[1])
			spoil(&result.Args[0])
			if !same(result.Args[1], last) {
				t.Errorf("two parts of a result share memory: %v", result)
			}
		}
	}
}

func TestPositionsAreSeparate(t *testing.T) {
	for _, e := range expressions() {
		list, want := positionsOf(t, e), positionsOf(t, e)
		for i := range list {
			for j := range list[i] {
				list[i][j] = -1
			}
			_ = append(list[i], -1, -1)
			for j, position := range list {
				if j > i && !slices.Equal(position, want[j]) {
					t.Fatalf("positions %d and %d of %v share memory", i, j, e)
				}
			}
		}
	}
}

func TestVariablesAreSeparate(t *testing.T) {
	e := node("f", node("Y"), node("X"), node("Y"))
	first, _ := impl.TermVariables(e)
	second, _ := impl.TermVariables(e)
	first[0] = "changed"
	if !slices.Equal(second, []string{"X", "Y"}) || !reflect.DeepEqual(e, node("f", node("Y"), node("X"), node("Y"))) {
		t.Error("two results share memory", second, e)
	}
}
