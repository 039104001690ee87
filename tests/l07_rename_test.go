package tests

import (
	"math"
	"slices"
	"strings"
	"testing"

	"loop.example/g01292/impl"
)

// freshByCounting are all new names, counted up digit by digit: of one digit, of
// two without a nought ahead, and of three.
func freshByCounting() []string {
	const digits = "abcdefghijklmnopqrstuvwxyz"
	var out []string
	for _, a := range digits {
		out = append(out, "zq"+string(a))
	}
	for _, a := range digits[1:] {
		for _, b := range digits {
			out = append(out, "zq"+string(a)+string(b))
		}
	}
	for _, a := range digits[1:] {
		for _, b := range digits {
			for _, c := range digits {
				out = append(out, "zq"+string(a)+string(b)+string(c))
			}
		}
	}
	return out[:10000]
}

var fresh = freshByCounting()

func TestFreshNameByHand(t *testing.T) {
	for k, want := range map[int]string{
		0: "zqa", 1: "zqb", 2: "zqc", 25: "zqz", 26: "zqba", 27: "zqbb", 51: "zqbz", 52: "zqca", 675: "zqzz", 676: "zqbaa", 677: "zqbab",
		701: "zqbaz", 702: "zqbba", 1351: "zqbzz", 1352: "zqcaa", 9998: "zqouo", 9999: "zqoup",
	} {
		if got := impl.FreshName(k); got != want {
			t.Errorf("FreshName(%d) = %q, want %q", k, got, want)
		}
	}
	for _, k := range []int{-1, -2, -25, -26, -9999, 10000, 10001, 17575, 17576, 65535, 1 << 31, 1 << 32, 1<<32 + 5, -1 << 32, 5 - 1<<32, math.MinInt, math.MaxInt} {
		if got := impl.FreshName(k); got != "" {
			t.Errorf("FreshName(%d) = %q, want nothing", k, got)
		}
	}
}

// TestFreshNamesAreEachAnother: and each is a name.
func TestFreshNamesAreEachAnother(t *testing.T) {
	at := map[string]int{}
	for k, want := range fresh {
		got := impl.FreshName(k)
		if got != want || !isNameByRule(got) {
			t.Fatalf("FreshName(%d) = %q, want %q", k, got, want)
		}
		if first, again := at[got]; again {
			t.Fatalf("FreshName is %q of %d and of %d", got, first, k)
		}
		at[got] = k
	}
}

func nameAt(l []impl.Node, b impl.Bind) string {
	return []string{l[b.Node].Name, l[b.Node].Other}[b.Role]
}

// withSiteName is the program with one binder named so, and nothing else.
func withSiteName(l []impl.Node, b impl.Bind, name string) []impl.Node {
	return turned(l, b.Node, func(n *impl.Node) {
		if b.Role == 1 {
			n.Other = name
		} else {
			n.Name = name
		}
	})
}

func bindersByRule(l []impl.Node) []impl.Bind {
	out := make([]impl.Bind, len(l))
	for i, here := range scopesByRule(l) {
		out[i] = binderByRule(l[i], here)
	}
	return out
}

// canonByRule counts the new names off for the binders, and then looks for each
// use what its binder has.
func canonByRule(l []impl.Node) []impl.Node {
	binders := bindersByRule(l)
	taken := map[string]bool{}
	for i, b := range binders {
		if l[i].Kind == impl.NVar && b == noBinder {
			taken[l[i].Name] = true
		}
	}
	out, k := slices.Clone(l), 0
	for _, b := range sitesByRule(l) {
		for taken[fresh[k]] {
			k++
		}
		out = withSiteName(out, b, fresh[k])
		k++
	}
	for i, b := range binders {
		if b != noBinder {
			out[i].Name = nameAt(out, b)
		}
	}
	return out
}

// alphaByRule asks whether all is alike but names that are bound, and each use
// belongs to the same binder.
func alphaByRule(a []impl.Node, b []impl.Node) bool {
	if len(a) != len(b) {
		return false
	}
	first, second := bindersByRule(a), bindersByRule(b)
	for i := range a {
		m, n := a[i], b[i]
		if m.Kind != impl.NVar || first[i] != noBinder {
			m.Name, n.Name = "", ""
		}
		m.Other, n.Other = "", ""
		if m != n || first[i] != second[i] {
			return false
		}
	}
	return true
}

func textOf(l []impl.Node) string {
	return quoted(joined(wordsOfAll(l)))
}

// mustCanon holds Canon of a right program against the rule, and what P6 says of
// it by chapters 6 and 7.
func mustCanon(t *testing.T, l []impl.Node) {
	t.Helper()
	c := impl.Canon(l)
	if want := canonByRule(l); !slices.Equal(c, want) {
		t.Fatalf("Canon is %s, want %s of %s", quoted(impl.Print(c)), textOf(want), textOf(l))
	}
	if !impl.NodesOk(c) || !slices.Equal(impl.FreeNames(c), impl.FreeNames(l)) || !slices.Equal(impl.Sites(c), impl.Sites(l)) {
		t.Fatalf("Canon is %s, with other free names or binders than %s", textOf(c), textOf(l))
	}
	for i := range l {
		if got, want := impl.BinderOf(c, i), impl.BinderOf(l, i); got != want {
			t.Fatalf("BinderOf %d is %v in Canon %s, and %v in %s", i, got, textOf(c), want, textOf(l))
		}
	}
	seen := map[string]bool{}
	for _, name := range impl.FreeNames(l) {
		seen[name] = true
	}
	for _, b := range impl.Sites(c) {
		if name := nameAt(c, b); seen[name] {
			t.Fatalf("%v has the name %s, which is free or another's, in Canon %s of %s", b, name, textOf(c), textOf(l))
		} else {
			seen[name] = true
		}
	}
	if again := impl.Canon(c); !slices.Equal(again, c) {
		t.Fatalf("Canon of Canon is %s, but Canon %s", textOf(again), textOf(c))
	}
	mustBeAlpha(t, l, l, true)
	mustBeAlpha(t, l, c, true)
}

// mustBeAlpha asks from either side.
func mustBeAlpha(t *testing.T, a []impl.Node, b []impl.Node, want bool) {
	t.Helper()
	if impl.AlphaSame(a, b) != want || impl.AlphaSame(b, a) != want {
		t.Fatalf("AlphaSame is %v and %v, want %v of %s and %s", impl.AlphaSame(a, b), impl.AlphaSame(b, a), want, quoted(impl.Print(a)), quoted(impl.Print(b)))
	}
}

// mustRename holds RenameOne against the rule: the binder and its uses are named
// so, and that is told where each use keeps its binder.
func mustRename(t *testing.T, l []impl.Node, b impl.Bind, name string) bool {
	t.Helper()
	got, ok := impl.RenameOne(l, b, name)
	want, fine := slices.Clone(l), false
	if slices.Contains(sitesByRule(l), b) && isNameByRule(name) {
		out := withSiteName(l, b, name)
		for i, by := range bindersByRule(l) {
			if by == b {
				out[i].Name = name
			}
		}
		if alphaByRule(l, out) {
			want, fine = out, true
		}
	}
	if ok != fine || !slices.Equal(got, want) {
		t.Fatalf("RenameOne %v to %q is %s and %v, want %s and %v of %s", b, name, quoted(impl.Print(got)), ok, textOf(want), fine, textOf(l))
	}
	if !impl.AlphaSame(l, got) {
		t.Fatalf("RenameOne %v to %q is %s, which is not AlphaSame as %s", b, name, textOf(got), textOf(l))
	}
	return ok
}

// strayBinds are none of Sites of a program.
func strayBinds(l []impl.Node) []impl.Bind {
	var out []impl.Bind
	for _, i := range strayNumbers(len(l)) {
		for _, role := range []int{-1, 0, 1, 2} {
			out = append(out, impl.Bind{Node: i, Role: role})
		}
	}
	sites := sitesByRule(l)
	for i := range l {
		for _, role := range []int{-1, 0, 1, 2, 1 << 32, -1 << 32, math.MinInt, math.MaxInt} {
			if b := (impl.Bind{Node: i, Role: role}); !slices.Contains(sites, b) {
				out = append(out, b)
			}
		}
	}
	return out
}

// noNames are texts that are no names.
func noNames() []string {
	return append([]string{"", "abcdefghi", "abcdefghijklmnop", "A", "aB", "x ", " x", "x y", "x\n", "1", "x1", "x_", "x'", "(", ")", "#", "{", "`", "\x00", "x\x00", "\xff", "é",
		strings.Repeat("x", 5000)}, keys...)
}

// mustNotRename asks for what is handed back as it is.
func mustNotRename(t *testing.T, l []impl.Node, b impl.Bind, name string) {
	t.Helper()
	if got, ok := impl.RenameOne(l, b, name); ok || !slices.Equal(got, l) {
		t.Fatalf("RenameOne %v to %q is %s and %v of %s", b, name, tell(got), ok, tell(l))
	}
}

// mustHaveNoNames asks for what chapter 7 tells of nodes that are not right.
func mustHaveNoNames(t *testing.T, what string, l []impl.Node) {
	t.Helper()
	right := []impl.Node{{Kind: impl.NVar, Name: "x"}, {Kind: impl.NFun, Name: "x"}}
	if c := impl.Canon(l); len(c) != 0 {
		t.Fatalf("%s: Canon is %s of %s", what, tell(c), tell(l))
	}
	if impl.AlphaSame(l, l) || impl.AlphaSame(l, slices.Clone(l)) || impl.AlphaSame(l, right) || impl.AlphaSame(right, l) ||
		impl.AlphaSame(l, nil) || impl.AlphaSame(nil, l) || impl.AlphaSame(l, []impl.Node{{}}) || impl.AlphaSame([]impl.Node{{}}, l) {
		t.Fatalf("%s: AlphaSame is true of %s", what, tell(l))
	}
	for i := -1; i <= len(l) && i < 200; i++ {
		for role := -1; role <= 2; role++ {
			mustNotRename(t, l, impl.Bind{Node: i, Role: role}, []string{"w", "x", "", "fun"}[(i+role+2)%4])
			mustNotRename(t, l, impl.Bind{Node: i, Role: role}, "y")
		}
	}
}

// canonCases are programs and their Canon.
var canonCases = []struct{ text, want string }{
	// nothing is bound
	{"0", "0"},
	{"65535", "65535"},
	{"nil", "nil"},
	{"x", "x"},
	{"zqa", "zqa"},
	{"(app x (ref y))", "(app x (ref y))"},
	{"(if zqa zqb (set zqc zqa))", "(if zqa zqb (set zqc zqa))"},

	// each kind that binds, with each of its names, and one other, in each of its kids
	{"(fun x x)", "(fun zqa zqa)"},
	{"(fun x y)", "(fun zqa y)"},
	{"(fun x 1)", "(fun zqa 1)"},
	{"(fun x (pair x y))", "(fun zqa (pair zqa y))"},
	{"(let x (pair x y) (pair x y))", "(let zqa (pair x y) (pair zqa y))"},
	{"(try (pair x y) x (pair x y))", "(try (pair x y) zqa (pair zqa y))"},
	{"(rec f a (pair f a) (pair f a))", "(rec zqa zqb (pair zqa zqb) (pair zqa a))"},
	{"(rec a f (pair f a) (pair f a))", "(rec zqa zqb (pair zqb zqa) (pair f zqa))"},
	{"(match (pair h r) (pair h r) h r (pair h r))", "(match (pair h r) (pair h r) zqa zqb (pair zqa zqb))"},
	{"(match (pair h r) (pair h r) r h (pair h r))", "(match (pair h r) (pair h r) zqa zqb (pair zqb zqa))"},

	// all else stays
	{"(fun x (if (less x 65535) (cons x nil) (raise (same 7 x))))", "(fun zqa (if (less zqa 65535) (cons zqa nil) (raise (same 7 zqa))))"},
	{"(fun x (add (sub x 1) (less 2 (same x 3))))", "(fun zqa (add (sub zqa 1) (less 2 (same zqa 3))))"},
	{"(fun x (fst (snd (ref (get (set x (app x x)))))))", "(fun zqa (fst (snd (ref (get (set zqa (app zqa zqa)))))))"},

	// a name that is bound again further in, and the use behind it
	{"(fun x (pair (fun x x) x))", "(fun zqb (pair (fun zqa zqa) zqb))"},
	{"(fun x (pair x (fun x x)))", "(fun zqb (pair zqb (fun zqa zqa)))"},
	{"(fun x (pair (fun x (pair (fun x x) x)) x))", "(fun zqc (pair (fun zqb (pair (fun zqa zqa) zqb)) zqc))"},
	{"(let x 1 (let x x x))", "(let zqb 1 (let zqa zqb zqa))"},
	{"(let x (let x x x) x)", "(let zqb (let zqa x zqa) zqb)"},
	{"(let x 1 (pair (let x x x) x))", "(let zqb 1 (pair (let zqa zqb zqa) zqb))"},
	{"(try (try e e e) e (try e e e))", "(try (try e zqa zqa) zqc (try zqc zqb zqb))"},
	{"(rec f x (rec f x (app f x) (app f x)) (app f x))", "(rec zqc zqd (rec zqa zqb (app zqa zqb) (app zqa zqd)) (app zqc x))"},
	{"(match a a a b (match b a b a (pair a b)))", "(match a a zqc zqd (match zqd zqc zqa zqb (pair zqb zqa)))"},
	{"(fun x (pair (match x x y x (pair x y)) (pair x y)))", "(fun zqc (pair (match zqc zqc zqa zqb (pair zqb zqa)) (pair zqc y)))"},
	{"(fun x (pair (rec x y (pair x y) (pair x y)) (pair x y)))", "(fun zqc (pair (rec zqa zqb (pair zqa zqb) (pair zqa y)) (pair zqc y)))"},
	{"(pair (fun x x) x)", "(pair (fun zqa zqa) x)"},
	{"(pair (fun x x) (fun x x))", "(pair (fun zqa zqa) (fun zqb zqb))"},
	{"(pair (fun x x) (fun y x))", "(pair (fun zqa zqa) (fun zqb x))"},

	// one node that binds one name twice
	{"(rec x x x x)", "(rec zqa zqb zqb zqa)"},
	{"(match x x x x x)", "(match x x zqa zqb zqb)"},
	{"(fun x (match x x x x x))", "(fun zqc (match zqc zqc zqa zqb zqb))"},
	{"(fun x (pair (rec x x (app x x) (app x x)) x))", "(fun zqc (pair (rec zqa zqb (app zqb zqb) (app zqa zqa)) zqc))"},
	{"(fun x (pair (match nil x x x (app x x)) x))", "(fun zqc (pair (match nil zqc zqa zqb (app zqb zqb)) zqc))"},
	{"(pair (match nil x x x x) x)", "(pair (match nil x zqa zqb zqb) x)"},
	{"(rec x x (fun x x) (fun y x))", "(rec zqc zqd (fun zqa zqa) (fun zqb zqc))"},

	// free names that look like new ones
	{"(fun x zqa)", "(fun zqb zqa)"},
	{"(fun x (app x zqa))", "(fun zqb (app zqb zqa))"},
	{"(fun x (app x zqb))", "(fun zqa (app zqa zqb))"},
	{"(fun x (let y x (add y zqb)))", "(fun zqc (let zqa zqc (add zqa zqb)))"},
	{"(fun x (let y x (add y zqc)))", "(fun zqb (let zqa zqb (add zqa zqc)))"},
	{"(fun x (fun y (app (app zqa zqc) (app x y))))", "(fun zqd (fun zqb (app (app zqa zqc) (app zqd zqb))))"},
	{"(rec f x (pair zqa zqb) (pair f x))", "(rec zqc zqd (pair zqa zqb) (pair zqc x))"},
	{"(match zqb zqa h r (pair h (pair r zqd)))", "(match zqb zqa zqc zqe (pair zqc (pair zqe zqd)))"},
	{"(match zqb 1 h r (pair h r))", "(match zqb 1 zqa zqc (pair zqa zqc))"},
	{"(try zqa e zqc)", "(try zqa zqb zqc)"},
	{"(fun x (pair zq zqaa))", "(fun zqa (pair zq zqaa))"},
	{"(fun x (pair zqab a))", "(fun zqa (pair zqab a))"},

	// names that look like new ones, bound in one place and free in another
	{"(pair zqa (fun zqa zqa))", "(pair zqa (fun zqb zqb))"},
	{"(pair (fun zqa zqa) zqa)", "(pair (fun zqb zqb) zqa)"},
	{"(let zqa zqa zqa)", "(let zqb zqa zqb)"},
	{"(let zqb zqb (let zqa zqb zqa))", "(let zqc zqb (let zqa zqc zqa))"},
	{"(rec zqb zqa (app zqb zqa) (app zqb zqa))", "(rec zqb zqc (app zqb zqc) (app zqb zqa))"},
	{"(match zqa zqb zqb zqa (pair zqa zqb))", "(match zqa zqb zqc zqd (pair zqd zqc))"},

	// names that look like new ones, and are all bound
	{"(fun zqa zqa)", "(fun zqa zqa)"},
	{"(fun zqb zqb)", "(fun zqa zqa)"},
	{"(fun zqa (fun zqb (app zqa zqb)))", "(fun zqb (fun zqa (app zqb zqa)))"},
	{"(fun zqb (fun zqa (app zqa zqb)))", "(fun zqb (fun zqa (app zqa zqb)))"},
	{"(rec zqb zqa (app zqb zqa) 1)", "(rec zqa zqb (app zqa zqb) 1)"},
	{"(match nil 0 zqb zqa (pair zqa zqb))", "(match nil 0 zqa zqb (pair zqb zqa))"},
	{"(fun zqoup zqoup)", "(fun zqa zqa)"},

	// forms within forms
	{"(try (rec f x (app f x) (raise 1)) e (let y nil (set (ref y) (pair e f))))",
		"(try (rec zqa zqb (app zqa zqb) (raise 1)) zqd (let zqc nil (set (ref zqc) (pair zqd f))))"},
	{"(let m (fun l (match l 0 h t (add h (app m t)))) (app m l))", "(let zqd (fun zqc (match zqc 0 zqa zqb (add zqa (app m zqb)))) (app zqd l))"},
}

func TestCanonByHand(t *testing.T) {
	kinds := map[[2]int]bool{}
	for _, c := range canonCases {
		l, want := programOf(t, c.text), programOf(t, c.want)
		if got := impl.Canon(l); !slices.Equal(got, want) {
			t.Errorf("Canon of %s is %s, want %s", c.text, quoted(impl.Print(got)), c.want)
		}
		mustCanon(t, l)
		for _, b := range sitesByRule(l) {
			kinds[[2]int{l[b.Node].Kind, b.Role}] = true
		}
	}
	if len(kinds) != 7 {
		t.Errorf("Canon is written out of %d kinds and roles, want 7", len(kinds))
	}
}

// chainOfFuns is (fun x (fun x .. inner)).
func chainOfFuns(funs int, inner []impl.Node) []impl.Node {
	for range funs {
		inner = over(impl.NFun, 1, inner)
	}
	return inner
}

// TestCanonOfManyBinders: the names go on from one digit to two and to three.
func TestCanonOfManyBinders(t *testing.T) {
	use := []impl.Node{{Kind: impl.NVar, Name: "x"}}
	l := impl.Canon(chainOfFuns(impl.MaxNodes-1, use))
	for i, want := range map[int]string{0: "zqa", 1: "zqa", 2: "zqb", 26: "zqz", 27: "zqba", 52: "zqbz", 53: "zqca", 149: "zqfs"} {
		if l[i].Name != want {
			t.Errorf("node %d of Canon of 149 functions has the name %s, want %s", i, l[i].Name, want)
		}
	}
	for _, free := range []string{"zqz", "zqba", "zqbb", "zqfs", "zqfr", "zqzz", "zqbaa"} {
		m := chainOfFuns(impl.MaxNodes-1, []impl.Node{{Kind: impl.NVar, Name: free}})
		mustCanon(t, m)
		k := slices.Index(fresh, free)
		last := "zqfs"
		if k < 149 {
			last = "zqft"
			if c := impl.Canon(m); c[k+1].Name != fresh[k+1] {
				t.Errorf("with %s free, node %d of Canon has the name %s", free, k+1, c[k+1].Name)
			}
		}
		if c := impl.Canon(m); c[149].Name != last || c[0].Name != free {
			t.Errorf("with %s free, Canon begins with %s and ends with %s, want %s", free, c[0].Name, c[149].Name, last)
		}
	}
}

// TestCanonPassesOverManyFreeNames: each new name, each second or each third one
// is free, as far as there are 40 of them.
func TestCanonPassesOverManyFreeNames(t *testing.T) {
	for _, step := range []int{1, 2, 3} {
		l := []impl.Node{{Kind: impl.NVar, Name: "x"}}
		for k := 0; k < 40; k++ {
			l = over(impl.NPair, 0, l, []impl.Node{{Kind: impl.NVar, Name: fresh[k*step]}})
		}
		l = chainOfFuns(impl.MaxNodes-len(l), l)
		if len(l) != impl.MaxNodes || len(impl.FreeNames(l)) != 40 {
			t.Fatalf("%d nodes with %d free names", len(l), len(impl.FreeNames(l)))
		}
		mustCanon(t, l)
		if want := map[int]string{1: fresh[108], 2: fresh[108], 3: fresh[103]}[step]; impl.Canon(l)[impl.MaxNodes-1].Name != want {
			t.Errorf("with 40 names free, %d apart, the last of Canon is %s, want %s", step, impl.Canon(l)[impl.MaxNodes-1].Name, want)
		}
	}
}

func TestAlphaSameByHand(t *testing.T) {
	for _, c := range []struct {
		a, b string
		want bool
	}{
		// bound names alone
		{"1", "1", true},
		{"nil", "nil", true},
		{"(fun x x)", "(fun y y)", true},
		{"(fun x z)", "(fun y z)", true},
		{"(fun x 1)", "(fun y 1)", true},
		{"(let x x x)", "(let y x y)", true},
		{"(try x x x)", "(try x y y)", true},
		{"(rec f a (app f a) (app f a))", "(rec g b (app g b) (app g a))", true},
		{"(rec x x x x)", "(rec y z z y)", true},
		{"(match x x x x x)", "(match x x y z z)", true},
		{"(match m n h r (pair h r))", "(match m n n m (pair n m))", true},
		{"(fun x (fun x x))", "(fun x (fun y y))", true},
		{"(fun x (fun y (app x y)))", "(fun y (fun x (app y x)))", true},
		{"(fun x (let y x (add y zqa)))", "(fun q (let x q (add x zqa)))", true},
		{"(fun zqa zqb)", "(fun zqc zqb)", true},
		{"(pair zqa (fun zqa zqa))", "(pair zqa (fun x x))", true},

		// a free name
		{"x", "x", true},
		{"x", "y", false},
		{"(fun x y)", "(fun x z)", false},
		{"(fun x y)", "(fun x x)", false},
		{"(fun zqa zqb)", "(fun zqb zqa)", false},
		{"(fun x zqa)", "(fun x zqb)", false},
		{"(pair x (fun x x))", "(pair y (fun x x))", false},
		{"(let x x x)", "(let y y y)", false},
		{"(match x x x x x)", "(match x y x x x)", false},
		{"(fun x zqa)", "(fun zqa zqa)", false},

		// one field
		{"(fun x 1)", "(fun x 2)", false},
		{"(fun x (add x x))", "(fun x (sub x x))", false},
		{"(fun x (pair x x))", "(fun x (cons x x))", false},
		{"(fun x x)", "(fun x nil)", false},
		{"(fun x x)", "(fun x (fun x x))", false},
		{"(let x 1 x)", "(try 1 x x)", false},
		{"(pair 1 (pair 1 1))", "(pair (pair 1 1) 1)", false},

		// which binder a use belongs to
		{"(fun x (fun y x))", "(fun x (fun y y))", false},
		{"(fun x (fun y x))", "(fun x (fun x x))", false},
		{"(fun x (let y x (add y zqa)))", "(fun x (let y x (add x zqa)))", false},
		{"(rec f a (app f a) 1)", "(rec f a (app a f) 1)", false},
		{"(rec f a f 1)", "(rec f f f 1)", false},
		{"(match 1 2 h r h)", "(match 1 2 h r r)", false},
		{"(match 1 2 h r h)", "(match 1 2 h h h)", false},
		{"(fun x (match 1 2 h r x))", "(fun x (match 1 2 h x x))", false},
		{"(fun x (fun y (app x y)))", "(fun x (fun y (app y x)))", false},
	} {
		a, b := programOf(t, c.a), programOf(t, c.b)
		mustBeAlpha(t, a, b, c.want)
		if alphaByRule(a, b) != c.want {
			t.Errorf("the rule says %v of %s and %s", !c.want, c.a, c.b)
		}
		if slices.Equal(impl.Canon(a), impl.Canon(b)) != c.want {
			t.Errorf("Canon of %s and %s", c.a, c.b)
		}
	}
}

// TestAlphaSameOfWrongPrograms: on either side, and on both.
func TestAlphaSameOfWrongPrograms(t *testing.T) {
	right := programOf(t, "(fun x x)")
	wrong := [][]impl.Node{nil, {}, {{}}, {{Kind: impl.NVar}}, {{Kind: impl.NFun, Name: "x"}}, {right[0], right[0]}, append(slices.Clone(right), right...), right[1:],
		turned(right, 1, func(n *impl.Node) { n.Name = "let" }), turned(right, 0, func(n *impl.Node) { n.Other = "x" }), chainOfFuns(impl.MaxNodes, right[:1])}
	for _, a := range wrong {
		if impl.AlphaSame(a, right) || impl.AlphaSame(right, a) {
			t.Errorf("AlphaSame is true of a right program and %s", tell(a))
		}
		for _, b := range wrong {
			if impl.AlphaSame(a, b) {
				t.Errorf("AlphaSame is true of %s and %s", tell(a), tell(b))
			}
		}
	}
}

// TestAlphaSameOfAllSmallPrograms: of one shape, all choices of two names and a
// third are held against each other.
func TestAlphaSameOfAllSmallPrograms(t *testing.T) {
	for size, programs := range programsUpTo(4) {
		for at, l := range programs {
			names := countNames(l)
			choices := 1
			for range names {
				choices *= 3
			}
			step := []int{1, 1, 1, 1, 7}[size]
			if names > 3 {
				step = 31
			}
			for i := at % step; i < choices; i += step {
				a := namedBy(l, 3, i)
				for j := at % step; j < choices; j += step {
					if b := namedBy(l, 3, j); impl.AlphaSame(a, b) != alphaByRule(a, b) {
						t.Fatalf("AlphaSame is %v of %s and %s", impl.AlphaSame(a, b), textOf(a), textOf(b))
					}
				}
			}
		}
	}
}

// renameCases are programs, a binder, its new name, and what comes of it; empty
// where it stays.
var renameCases = []struct {
	text, bind, name, want string
}{
	// a name that is not in use
	{"(fun x x)", "1.0", "w", "(fun w w)"},
	{"(fun x 1)", "1.0", "w", "(fun w 1)"},
	{"(fun x (pair x y))", "3.0", "abcdefgh", "(fun abcdefgh (pair abcdefgh y))"},
	{"(let x (pair x y) (pair x y))", "6.0", "w", "(let w (pair x y) (pair w y))"},
	{"(try (pair x y) x (pair x y))", "6.0", "w", "(try (pair x y) w (pair w y))"},
	{"(rec f a (pair f a) (pair f a))", "6.0", "w", "(rec w a (pair w a) (pair w a))"},
	{"(rec f a (pair f a) (pair f a))", "6.1", "w", "(rec f w (pair f w) (pair f a))"},
	{"(match (pair h r) (pair h r) h r (pair h r))", "9.0", "w", "(match (pair h r) (pair h r) w r (pair w r))"},
	{"(match (pair h r) (pair h r) h r (pair h r))", "9.1", "w", "(match (pair h r) (pair h r) h w (pair h w))"},
	{"(fun x (pair (fun x x) x))", "4.0", "w", "(fun w (pair (fun x x) w))"},
	{"(fun x (pair (fun x x) x))", "1.0", "w", "(fun x (pair (fun w w) x))"},
	{"(fun x x)", "1.0", "zqa", "(fun zqa zqa)"},
	{"(fun x x)", "1.0", "funs", "(fun funs funs)"},

	// its own name
	{"(fun x x)", "1.0", "x", "(fun x x)"},
	{"(let x x x)", "2.0", "x", "(let x x x)"},
	{"(try x x x)", "2.0", "x", "(try x x x)"},
	{"(rec f a (app f a) (app f a))", "6.0", "f", "(rec f a (app f a) (app f a))"},
	{"(rec f a (app f a) (app f a))", "6.1", "a", "(rec f a (app f a) (app f a))"},
	{"(match 1 2 h r (pair h r))", "5.0", "h", "(match 1 2 h r (pair h r))"},
	{"(match 1 2 h r (pair h r))", "5.1", "r", "(match 1 2 h r (pair h r))"},

	// a name that is free in the program: caught, and not
	{"(fun x y)", "1.0", "y", ""},
	{"(fun x (pair x y))", "3.0", "y", ""},
	{"(fun x (let y x (add y z)))", "4.0", "z", ""},
	{"(fun x (let y x (add y z)))", "5.0", "z", ""},
	{"(try 1 x y)", "2.0", "y", ""},
	{"(rec f a a b)", "2.0", "b", ""},
	{"(rec f a b a)", "2.1", "b", ""},
	{"(rec f a f a)", "2.0", "a", ""},
	{"(match 1 2 h r z)", "3.0", "z", ""},
	{"(match 1 2 h r z)", "3.1", "z", ""},
	{"(fun x zqa)", "1.0", "zqa", ""},
	{"(fun x zqa)", "1.0", "zqb", "(fun zqb zqa)"},
	{"(let x y x)", "2.0", "y", "(let y y y)"},
	{"(try y x x)", "2.0", "y", "(try y y y)"},
	{"(rec f a f b)", "2.1", "b", "(rec f b f b)"},
	{"(match m n h r (pair h r))", "5.0", "m", "(match m n m r (pair m r))"},
	{"(match m n h r (pair h r))", "5.1", "n", "(match m n h n (pair h n))"},
	{"(pair z (fun x x))", "2.0", "z", "(pair z (fun z z))"},

	// a use would be caught by a binder further in
	{"(fun x (fun y x))", "2.0", "y", ""},
	{"(fun x (let y 1 x))", "3.0", "y", ""},
	{"(fun x (try 1 y x))", "3.0", "y", ""},
	{"(fun x (rec f a x 1))", "3.0", "f", ""},
	{"(fun x (rec f a x 1))", "3.0", "a", ""},
	{"(fun x (rec f a 1 x))", "3.0", "f", ""},
	{"(fun x (match 1 2 h r x))", "4.0", "h", ""},
	{"(fun x (match 1 2 h r x))", "4.0", "r", ""},
	{"(rec f a f 1)", "2.0", "a", ""},
	{"(match 1 2 h r h)", "3.0", "r", ""},
	{"(let x 1 (pair x (fun y (fun z x))))", "6.0", "y", ""},

	// the binder would catch a use of another one further out
	{"(fun x (fun y x))", "1.0", "x", ""},
	{"(fun x (let y 1 x))", "2.0", "x", ""},
	{"(fun x (try 1 y x))", "2.0", "x", ""},
	{"(fun x (rec f a x 1))", "2.0", "x", ""},
	{"(fun x (rec f a x 1))", "2.1", "x", ""},
	{"(fun x (rec f a 1 x))", "2.0", "x", ""},
	{"(fun x (match 1 2 h r x))", "3.0", "x", ""},
	{"(fun x (match 1 2 h r x))", "3.1", "x", ""},
	{"(rec f a f 1)", "2.1", "f", ""},
	{"(match 1 2 h r h)", "3.1", "h", ""},

	// a name that another binder has, where nothing is caught
	{"(fun x (fun y y))", "2.0", "y", "(fun y (fun y y))"},
	{"(fun x (fun y y))", "1.0", "x", "(fun x (fun x x))"},
	{"(fun x (let y x (add y z)))", "4.0", "x", "(fun x (let x x (add x z)))"},
	{"(fun x (let y x (add y z)))", "5.0", "y", "(fun y (let y y (add y z)))"},
	{"(pair (fun x x) (fun y y))", "1.0", "y", "(pair (fun y y) (fun y y))"},
	{"(fun x (rec f a 1 x))", "2.1", "x", "(fun x (rec f x 1 x))"},
	{"(fun x (rec f a 1 x))", "3.0", "a", "(fun a (rec f a 1 a))"},
	{"(rec f a a f)", "2.0", "a", "(rec a a a a)"},
	{"(rec f a a f)", "2.1", "f", "(rec f f f f)"},
	{"(match 1 2 h r r)", "3.0", "r", "(match 1 2 r r r)"},
	{"(match 1 2 h r r)", "3.1", "h", "(match 1 2 h h h)"},
	{"(fun x (match x x h r r))", "3.0", "x", "(fun x (match x x x r r))"},

	// one node that binds one name twice, by either role
	{"(rec x x x x)", "2.0", "y", "(rec y x x y)"},
	{"(rec x x x x)", "2.1", "y", "(rec x y y x)"},
	{"(rec x x x x)", "2.0", "x", "(rec x x x x)"},
	{"(rec x x x x)", "2.1", "x", "(rec x x x x)"},
	{"(rec x x y x)", "2.0", "y", ""},
	{"(rec x x y x)", "2.1", "y", ""},
	{"(rec x x x y)", "2.0", "y", ""},
	{"(rec x x x y)", "2.1", "y", "(rec x y y y)"},
	{"(match x x x x x)", "3.0", "y", "(match x x y x x)"},
	{"(match x x x x x)", "3.1", "y", "(match x x x y y)"},
	{"(match x x x x x)", "3.0", "x", "(match x x x x x)"},
	{"(match x x x x x)", "3.1", "x", "(match x x x x x)"},
	{"(match x x x x (pair x y))", "5.0", "y", ""},
	{"(match x x x x (pair x y))", "5.1", "y", ""},

	// texts that are no names
	{"(fun x x)", "1.0", "", ""},
	{"(fun x x)", "1.0", "abcdefghi", ""},
	{"(fun x x)", "1.0", "fun", ""},
	{"(fun x x)", "1.0", "nil", ""},
	{"(fun x x)", "1.0", "X", ""},
	{"(fun x x)", "1.0", "x1", ""},
	{"(fun x x)", "1.0", "x ", ""},

	// binders that are none of Sites
	{"(fun x x)", "0.0", "w", ""},
	{"(fun x x)", "1.1", "w", ""},
	{"(fun x x)", "2.0", "w", ""},
	{"(fun x x)", "-1.0", "w", ""},
	{"(let x 1 x)", "2.1", "w", ""},
	{"(rec f a f a)", "2.2", "w", ""},
	{"(rec f a f a)", "2.-1", "w", ""},
	{"(pair (fun x x) y)", "3.0", "w", ""},
	{"x", "0.0", "x", ""},
	{"x", "0.0", "w", ""},
}

func TestRenameByHand(t *testing.T) {
	kinds := map[[2]int]bool{}
	for _, c := range renameCases {
		l, b := programOf(t, c.text), bindOf(c.bind)
		ok := mustRename(t, l, b, c.name)
		if ok != (c.want != "") {
			t.Errorf("RenameOne %s to %q tells %v of %s", c.bind, c.name, ok, c.text)
		}
		want := c.want
		if want == "" {
			want = c.text
		} else {
			kinds[[2]int{l[b.Node].Kind, b.Role}] = true
		}
		if got, _ := impl.RenameOne(l, b, c.name); !slices.Equal(got, programOf(t, want)) {
			t.Errorf("RenameOne %s to %q is %s, want %s", c.bind, c.name, quoted(impl.Print(got)), want)
		}
	}
	if len(kinds) != 7 {
		t.Errorf("renamed are binders of %d kinds and roles, want 7", len(kinds))
	}
}

// TestRenameOfEachBinder: of each program by hand, each of Sites to each name in
// it, to new ones, and to what is no name; and what is none of Sites.
func TestRenameOfEachBinder(t *testing.T) {
	for _, c := range canonCases {
		l := programOf(t, c.text)
		names := []string{"w", "zqa", "zqb", "zqc", "abcdefgh"}
		for _, n := range l {
			names = append(names, n.Name, n.Other)
		}
		for _, b := range sitesByRule(l) {
			if !mustRename(t, l, b, "unused") || !mustRename(t, l, b, nameAt(l, b)) {
				t.Fatalf("RenameOne %v to an unused name, or to its own, tells false of %s", b, c.text)
			}
			for _, name := range sortedOnce(names) {
				mustRename(t, l, b, name)
			}
			for _, name := range noNames() {
				mustNotRename(t, l, b, name)
			}
		}
		for _, b := range strayBinds(l) {
			mustNotRename(t, l, b, "w")
			mustNotRename(t, l, b, "x")
		}
	}
}

// mustName holds all functions of chapter 7 against a right program.
func mustName(t *testing.T, l []impl.Node, names ...string) {
	t.Helper()
	mustCanon(t, l)
	for _, b := range sitesByRule(l) {
		for _, name := range names {
			mustRename(t, l, b, name)
		}
	}
}

// TestNamesOfAllSmallPrograms: P6 of all programs of up to three nodes with all
// names of three, and of those of four with some; one of the names looks new.
func TestNamesOfAllSmallPrograms(t *testing.T) {
	for size, programs := range programsUpTo(4) {
		for i, l := range programs {
			names := countNames(l)
			if size > 3 {
				for k := range 3 {
					mustName(t, newLooking(namedBy(l, 3, i*7919+k*104729)), "a", "zqa", "zqb")
				}
				continue
			}
			choices := 1
			for range names {
				choices *= 3
			}
			for number := range choices {
				m := namedBy(l, 3, number)
				mustName(t, m, "a", "b", "c", "d")
				mustName(t, newLooking(m), "a", "zqa", "zqb", "zqc")
			}
		}
	}
}

// newLooking has zqa and zqb in the place of the names b and c.
func newLooking(l []impl.Node) []impl.Node {
	out := slices.Clone(l)
	for i := range out {
		for _, name := range []*string{&out[i].Name, &out[i].Other} {
			switch *name {
			case "b":
				*name = "zqa"
			case "c":
				*name = "zqb"
			}
		}
	}
	return out
}

// TestNamesOfBindersWithinBinders: each kind that binds in each kid of each other
// one, with names of three, two of which look new.
func TestNamesOfBindersWithinBinders(t *testing.T) {
	use := over(impl.NPair, 0, []impl.Node{{Kind: impl.NVar, Name: "x"}}, []impl.Node{{Kind: impl.NVar, Name: "y"}})
	number := 0
	for a := range binding {
		for b := range binding {
			two := filled(a, filled(b, use))
			for range 30 {
				number += 7919
				mustName(t, newLooking(namedBy(two, 3, number)), "a", "zqa", "zqb", "zqc")
			}
			for c := range binding {
				number += 7919
				mustName(t, newLooking(namedBy(filled(c, two), 3, number)), "a", "zqb")
			}
		}
	}
}

func TestNamesOfGreatPrograms(t *testing.T) {
	for _, nodes := range []int{20, impl.MaxNodes} {
		for i, l := range append(deepBinders(nodes), greatPrograms(nodes)...) {
			for _, m := range [][]impl.Node{l, dressed(l, i), namedBy(l, 1, 0), newLooking(namedBy(l, 3, 123456789))} {
				if len(m) != nodes {
					t.Fatalf("a program of %d nodes has %d", nodes, len(m))
				}
				mustCanon(t, m)
				if sites := sitesByRule(m); len(sites) > 0 {
					for _, b := range []impl.Bind{sites[0], sites[len(sites)/2], sites[len(sites)-1]} {
						for _, name := range []string{"w", "x", "y", "zqa"} {
							mustRename(t, m, b, name)
						}
					}
				}
			}
		}
	}
	for _, nodes := range []int{impl.MaxNodes + 1, impl.MaxNodes + 2, 400} {
		for _, l := range append(deepBinders(nodes), greatPrograms(nodes)...) {
			mustHaveNoNames(t, "too many nodes", l)
		}
	}
	long := slices.Repeat([]impl.Node{{Kind: impl.NVar, Name: "x"}}, 20000)
	if len(impl.Canon(long)) != 0 || impl.AlphaSame(long, long) {
		t.Error("a very long list")
	}
	mustNotRename(t, long, impl.Bind{}, "w")
}

// TestNamesOfOneWrongField: each field of each node in turn is not right, in a
// program that is otherwise.
func TestNamesOfOneWrongField(t *testing.T) {
	programs := [][]impl.Node{programOf(t, "(rec f x (rec f x (app f x) (app f x)) (app f x))"), programOf(t, "(match a a a b (match b a b a (pair a b)))"),
		programOf(t, "(fun x (let y x (add y zqa)))"), programOf(t, "(try (try e e e) e (try e e e))")}
	for _, s := range shapes {
		l := oneOfEach(s.kind)
		programs = append(programs, l, over(impl.NFun, 1, l), over(impl.NMatch, 2, l, l, l))
	}
	for _, l := range programs {
		mustName(t, l, "w", "z")
		for i := range l {
			for _, m := range wrongTurns(l, i) {
				mustHaveNoNames(t, "one wrong field", m)
				if impl.AlphaSame(l, m) || impl.AlphaSame(m, l) {
					t.Fatalf("AlphaSame is true of a right program and %s", tell(m))
				}
			}
		}
	}
}

func TestNamesOfWrongLists(t *testing.T) {
	for what, l := range wrongLists() {
		mustHaveNoNames(t, what, l)
	}
}

// askNames calls all functions of chapter 7, and writes into what they answer.
func askNames(l []impl.Node, other []impl.Node) {
	spoil := func(answer []impl.Node) {
		answer = answer[:cap(answer)]
		for i := range answer {
			answer[i] = impl.Node{Kind: -7, Name: "gone", Other: "gone"}
		}
	}
	impl.FreshName(len(l))
	spoil(impl.Canon(l))
	impl.AlphaSame(l, other)
	impl.AlphaSame(other, l)
	for _, b := range append(impl.Sites(l), noBinder, impl.Bind{Node: len(l)}) {
		for _, name := range []string{"w", "x", "y", "", "fun"} {
			out, _ := impl.RenameOne(l, b, name)
			spoil(out)
		}
	}
}

// TestNamesLeaveNodesAsTheyAre: neither a list nor the room behind it is written
// into.
func TestNamesLeaveNodesAsTheyAre(t *testing.T) {
	programs := append(deepBinders(20), nil, []impl.Node{{Kind: impl.NFun, A: 3, Name: "x"}}, deepBinders(impl.MaxNodes)[0], deepBinders(impl.MaxNodes + 1)[5])
	for _, c := range canonCases {
		l := programOf(t, c.text)
		programs = append(programs, l, turned(l, len(l)-1, func(n *impl.Node) { n.N = -1 }))
	}
	for _, l := range programs {
		mustLeaveAlone(t, l, func(l []impl.Node) {
			askNames(l, programs[5])
			askNames(programs[5], l)
		})
	}
}

// TestNamesAnswerInNewMemory: an answer shares no memory with the nodes, with the
// new name, nor with another answer.
func TestNamesAnswerInNewMemory(t *testing.T) {
	programs := [][]impl.Node{{}, {{Kind: 77, A: 5, Name: strings.Clone("stray"), Other: strings.Clone("fun")}}}
	for _, c := range canonCases {
		programs = append(programs, programOf(t, c.text))
	}
	for _, l := range programs {
		given := strings.Clone("unused")
		known := []string{given}
		for _, n := range l {
			known = append(known, n.Name, n.Other)
		}
		answers := [][]impl.Node{impl.Canon(l), impl.Canon(l)}
		for _, b := range append(impl.Sites(l), noBinder) {
			for _, name := range []string{given, "", given} {
				out, _ := impl.RenameOne(l, b, name)
				answers = append(answers, out)
			}
		}
		for _, out := range answers {
			var told []string
			for _, n := range out {
				told = append(told, n.Name, n.Other)
			}
			for _, s := range told {
				for _, n := range known {
					if liesIn(s, n) || liesIn(n, s) {
						t.Fatalf("the name %q shares memory with one of %s, or of another answer", s, tell(l))
					}
				}
			}
			known = append(known, told...)
		}
		before := slices.Clone(l)
		for _, out := range answers {
			for i := range out {
				out[i] = impl.Node{}
			}
		}
		if !slices.Equal(l, before) {
			t.Fatalf("an answer is of the memory of %s", tell(before))
		}
	}
}

// TestNamesKeepNothing: a program is told of as ever behind others.
func TestNamesKeepNothing(t *testing.T) {
	l := programOf(t, "(rec x x (add x zqb) (fun z (app x z)))")
	want := "(rec zqc zqd (add zqd zqb) (fun zqa (app zqc zqa)))"
	for _, other := range [][]impl.Node{nil, {{}}, oneOfEach(impl.NMatch), oneOfEach(impl.NFun), {{Kind: impl.NFun, A: 7, Name: "y"}}, deepBinders(150)[0], deepBinders(151)[6]} {
		askNames(other, l)
		if got := impl.Print(impl.Canon(l)); got != want {
			t.Fatalf("Canon is %s, want %s", got, want)
		}
		mustName(t, l, "w", "z", "zqb")
	}
}

// TestNamesOfAnyNodes: no list, binder or text makes a function of chapter 7
// panic, and each tells what it should, right or not.
func TestNamesOfAnyNodes(t *testing.T) {
	next := dice(11)
	names := []string{"x", "zqa", "zqb", "", "y", "abcdefghi", "fun", "\xff"}
	right := 0
	var before []impl.Node
	for range 40000 {
		l := anyNodes(next, 9, names)
		if !rightByRule(l) {
			mustHaveNoNames(t, "any nodes", l)
			continue
		}
		right++
		mustName(t, l, "x", "zqa", "w", names[next(len(names))])
		if before != nil {
			mustBeAlpha(t, l, before, alphaByRule(l, before))
		}
		before = l
		mustRename(t, l, impl.Bind{Node: strayFields[next(len(strayFields))], Role: strayFields[next(len(strayFields))]}, names[next(len(names))])
	}
	if right < 500 {
		t.Errorf("only %d of the lists were right", right)
	}
}
