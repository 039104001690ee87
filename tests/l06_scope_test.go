package tests

import (
	"math"
	"slices"
	"strconv"
	"strings"
	"testing"

	"loop.example/g01292/impl"
)

var noBinder = impl.Bind{Node: -1, Role: -1}

// boundName is one name that is bound at a place.
type boundName struct {
	name string
	by   impl.Bind
}

// scopesByRule walks down from the last node with all that is bound, the
// innermost last, as the first lines of chapter 6 say it.
func scopesByRule(l []impl.Node) [][]boundName {
	out := make([][]boundName, len(l))
	var walk func(i int, here []boundName)
	walk = func(i int, here []boundName) {
		out[i] = here
		n := l[i]
		name := append(slices.Clone(here), boundName{n.Name, impl.Bind{Node: i, Role: 0}})
		both := append(slices.Clone(name), boundName{n.Other, impl.Bind{Node: i, Role: 1}})
		switch n.Kind {
		case impl.NFun:
			walk(n.A, name)
		case impl.NLet, impl.NTry:
			walk(n.A, here)
			walk(n.B, name)
		case impl.NRec:
			walk(n.A, both)
			walk(n.B, name)
		case impl.NMatch:
			walk(n.A, here)
			walk(n.B, here)
			walk(n.C, both)
		default:
			for _, k := range []int{n.A, n.B, n.C}[:shapes[n.Kind-1].kids] {
				walk(k, here)
			}
		}
	}
	walk(len(l)-1, nil)
	return out
}

func binderByRule(n impl.Node, here []boundName) impl.Bind {
	if n.Kind == impl.NVar {
		for k := len(here) - 1; k >= 0; k-- {
			if here[k].name == n.Name {
				return here[k].by
			}
		}
	}
	return noBinder
}

func sitesByRule(l []impl.Node) []impl.Bind {
	var out []impl.Bind
	for i, n := range l {
		switch n.Kind {
		case impl.NFun, impl.NLet, impl.NTry:
			out = append(out, impl.Bind{Node: i})
		case impl.NRec, impl.NMatch:
			out = append(out, impl.Bind{Node: i}, impl.Bind{Node: i, Role: 1})
		}
	}
	return out
}

func sortedOnce(names []string) []string {
	out := slices.Clone(names)
	slices.Sort(out)
	return slices.Compact(out)
}

// mustScope holds all functions of chapter 6 against a right program: P5, and
// what P3 says of parents.
func mustScope(t *testing.T, l []impl.Node) {
	t.Helper()
	mustHaveParents(t, l)
	scopes := scopesByRule(l)
	var free []string
	for i, n := range l {
		want := binderByRule(n, scopes[i])
		if got := impl.BinderOf(l, i); got != want {
			t.Fatalf("BinderOf %d is %v, want %v in %s", i, got, want, quoted(joined(wordsOfAll(l))))
		}
		if n.Kind == impl.NVar && want == noBinder {
			free = append(free, n.Name)
		}
		var seen []string
		for _, b := range scopes[i] {
			seen = append(seen, b.name)
		}
		if got := impl.Visible(l, i); !slices.Equal(got, sortedOnce(seen)) {
			t.Fatalf("Visible %d is %v, want %v in %s", i, got, sortedOnce(seen), quoted(joined(wordsOfAll(l))))
		}
	}
	free = sortedOnce(free)
	if got := impl.FreeNames(l); !slices.Equal(got, free) || impl.Closed(l) != (len(free) == 0) {
		t.Fatalf("FreeNames is %v and Closed %v, want %v of %s", got, impl.Closed(l), free, quoted(joined(wordsOfAll(l))))
	}
	if got := impl.Sites(l); !slices.Equal(got, sitesByRule(l)) {
		t.Fatalf("Sites is %v, want %v of %s", got, sitesByRule(l), quoted(joined(wordsOfAll(l))))
	}
	mustHaveUses(t, l)
	noNodeToScope(t, l)
}

func mustHaveParents(t *testing.T, l []impl.Node) {
	t.Helper()
	parents := slices.Repeat([]int{-1}, len(l))
	for i, n := range l {
		for _, k := range []int{n.A, n.B, n.C}[:shapes[n.Kind-1].kids] {
			parents[k] = i
		}
	}
	for i, want := range parents {
		got := impl.ParentOf(l, i)
		if got != want || (got == -1) != (i == len(l)-1) {
			t.Fatalf("ParentOf %d is %d, want %d in %s", i, got, want, tell(l))
		}
		if got >= 0 && !slices.Contains(impl.Kids(l[got]), i) {
			t.Fatalf("ParentOf %d is %d, which has no such kid, in %s", i, got, tell(l))
		}
	}
}

// mustHaveUses holds UsesOf of each of Sites against BinderOf of each node: a use
// is one of just one of them, or of none.
func mustHaveUses(t *testing.T, l []impl.Node) {
	t.Helper()
	used, bound := 0, 0
	want := map[impl.Bind][]int{}
	for i := range l {
		if b := impl.BinderOf(l, i); b != noBinder {
			want[b] = append(want[b], i)
			bound++
		}
	}
	for _, b := range impl.Sites(l) {
		got := impl.UsesOf(l, b)
		if !slices.Equal(got, want[b]) {
			t.Fatalf("UsesOf %v is %v, want %v in %s", b, got, want[b], quoted(joined(wordsOfAll(l))))
		}
		for _, i := range got {
			if l[i].Kind != impl.NVar || l[i].Name != []string{l[b.Node].Name, l[b.Node].Other}[b.Role] {
				t.Fatalf("node %d is a use of %v in %s", i, b, quoted(joined(wordsOfAll(l))))
			}
		}
		used += len(got)
	}
	if used != bound {
		t.Fatalf("there are %d uses of Sites, but %d nodes with a binder in %s", used, bound, quoted(joined(wordsOfAll(l))))
	}
}

// strayNumbers are no node of a list of that length.
func strayNumbers(length int) []int {
	return []int{-1, -2, -length - 1, length, length + 1, 1 << 32, -1 << 32, math.MinInt, math.MaxInt}
}

// noNodeToScope asks for nodes and binders that there are not.
func noNodeToScope(t *testing.T, l []impl.Node) {
	t.Helper()
	for _, i := range strayNumbers(len(l)) {
		if p, b, v := impl.ParentOf(l, i), impl.BinderOf(l, i), impl.Visible(l, i); p != -1 || b != noBinder || len(v) != 0 {
			t.Fatalf("of node %d ParentOf is %d, BinderOf %v and Visible %v in %s", i, p, b, v, tell(l))
		}
		for _, role := range []int{-1, 0, 1, 2} {
			mustHaveNoUses(t, l, impl.Bind{Node: i, Role: role})
		}
	}
	sites := sitesByRule(l)
	for i := range l {
		for _, role := range []int{-1, 0, 1, 2, []int{1 << 32, -1 << 32, math.MinInt, math.MaxInt}[i%4]} {
			if b := (impl.Bind{Node: i, Role: role}); !slices.Contains(sites, b) {
				mustHaveNoUses(t, l, b)
			}
		}
	}
}

func mustHaveNoUses(t *testing.T, l []impl.Node, b impl.Bind) {
	t.Helper()
	if got := impl.UsesOf(l, b); len(got) != 0 {
		t.Fatalf("UsesOf %v is %v in %s", b, got, tell(l))
	}
}

// mustHaveNoScope asks for what chapter 6 tells of nodes that are not right.
func mustHaveNoScope(t *testing.T, what string, l []impl.Node) {
	t.Helper()
	for i := range l {
		if p, b, v := impl.ParentOf(l, i), impl.BinderOf(l, i), impl.Visible(l, i); p != -1 || b != noBinder || len(v) != 0 {
			t.Fatalf("%s: of node %d ParentOf is %d, BinderOf %v and Visible %v in %s", what, i, p, b, v, tell(l))
		}
		mustHaveNoUses(t, l, impl.Bind{Node: i, Role: 0})
		mustHaveNoUses(t, l, impl.Bind{Node: i, Role: 1})
	}
	for _, i := range strayNumbers(len(l)) {
		if p, b, v := impl.ParentOf(l, i), impl.BinderOf(l, i), impl.Visible(l, i); p != -1 || b != noBinder || len(v) != 0 {
			t.Fatalf("%s: of node %d ParentOf is %d, BinderOf %v and Visible %v in %s", what, i, p, b, v, tell(l))
		}
		mustHaveNoUses(t, l, impl.Bind{Node: i, Role: -1})
	}
	if f, s := impl.FreeNames(l), impl.Sites(l); len(f) != 0 || len(s) != 0 || impl.Closed(l) {
		t.Fatalf("%s: FreeNames is %v, Sites %v and Closed %v of %s", what, f, s, impl.Closed(l), tell(l))
	}
}

// scopeCase is a program with what chapter 6 says of it, written out by hand: of
// each node, in order, its parent, its binder (. where it is no NVar, - where it
// has none, else Node and Role) and what is visible (- for nothing).
type scopeCase struct {
	text, parents, binders, visible, free, sites string
}

var scopeCases = []scopeCase{
	{"0", "-1", ".", "-", "", ""},
	{"nil", "-1", ".", "-", "", ""},
	{"x", "-1", "-", "-", "x", ""},
	{"(ref y)", "1 -1", "- .", "- -", "y", ""},

	// each kind that binds, with each of its names, and one other, in each of its kids
	{"(fun x (pair x y))", "2 2 3 -1", "3.0 - . .", "x x x -", "y", "3.0"},
	{"(let x (pair x y) (pair x y))", "2 2 6 5 5 6 -1", "- - . 6.0 - . .", "- - - x x x -", "x y", "6.0"},
	{"(try (pair x y) x (pair x y))", "2 2 6 5 5 6 -1", "- - . 6.0 - . .", "- - - x x x -", "x y", "6.0"},
	{"(rec f a (pair f a) (pair f a))", "2 2 6 5 5 6 -1", "6.0 6.1 . 6.0 - . .", "a,f a,f a,f f f f -", "a", "6.0 6.1"},
	{"(rec a f (pair f a) (pair f a))", "2 2 6 5 5 6 -1", "6.1 6.0 . - 6.0 . .", "a,f a,f a,f a a a -", "f", "6.0 6.1"},
	{"(match (pair h r) (pair h r) h r (pair h r))", "2 2 9 5 5 9 8 8 9 -1", "- - . - - . 9.0 9.1 . .", "- - - - - - h,r h,r h,r -", "h r", "9.0 9.1"},
	{"(match (pair h r) (pair h r) r h (pair h r))", "2 2 9 5 5 9 8 8 9 -1", "- - . - - . 9.1 9.0 . .", "- - - - - - h,r h,r h,r -", "h r", "9.0 9.1"},

	// the kinds that bind nothing
	{"(app x x)", "2 2 -1", "- - .", "- - -", "x", ""},
	{"(if x y x)", "3 3 3 -1", "- - - .", "- - - -", "x y", ""},
	{"(fun x (if x (cons x nil) (set x x)))", "7 3 3 7 6 6 7 8 -1", "8.0 8.0 . . 8.0 8.0 . . .", "x x x x x x x x -", "", "8.0"},
	{"(fun x (fst (snd (ref (get (raise x))))))", "1 2 3 4 5 6 -1", "6.0 . . . . . .", "x x x x x x -", "", "6.0"},
	{"(fun x (add (sub x 1) (less 2 (same x y))))", "2 2 8 7 6 6 7 8 9 -1", "9.0 . . . 9.0 - . . . .", "x x x x x x x x x -", "y", "9.0"},

	// one node that binds one name twice
	{"(rec x x x x)", "2 2 -1", "2.1 2.0 .", "x x -", "", "2.0 2.1"},
	{"(match x x x x x)", "3 3 3 -1", "- - 3.1 .", "- - x -", "x", "3.0 3.1"},
	{"(rec x x (fun x x) (fun y x))", "1 4 3 4 -1", "1.0 . 4.0 . .", "x x x,y x -", "", "1.0 3.0 4.0 4.1"},
	{"(fun x (match x x x x x))", "3 3 3 4 -1", "4.0 4.0 3.1 . .", "x x x x -", "", "3.0 3.1 4.0"},
	{"(fun x (rec x x (app x x) (app x x)))", "2 2 6 5 5 6 7 -1", "6.1 6.1 . 6.0 6.0 . . .", "x x x x x x x -", "", "6.0 6.1 7.0"},

	// a name that is bound again further in, and the use behind it
	{"(fun x (pair (fun x x) x))", "1 3 3 4 -1", "1.0 . 4.0 . .", "x x x x -", "", "1.0 4.0"},
	{"(fun x (pair x (fun x x)))", "3 2 3 4 -1", "4.0 2.0 . . .", "x x x x -", "", "2.0 4.0"},
	{"(let x 1 (let x x x))", "4 3 3 4 -1", ". 4.0 3.0 . .", "- x x x -", "", "3.0 4.0"},
	{"(let x (let x x x) x)", "2 2 4 4 -1", "- 2.0 . 4.0 .", "- x - x -", "x", "2.0 4.0"},
	{"(let x (fun x x) x)", "1 3 3 -1", "1.0 . 3.0 .", "x - x -", "", "1.0 3.0"},
	{"(try (try e e e) e (try e e e))", "2 2 6 5 5 6 -1", "- 2.0 . 6.0 5.0 . .", "- e - e e e -", "e", "2.0 5.0 6.0"},
	{"(rec f x (rec f x (app f x) (app f x)) (app f x))", "2 2 6 5 5 6 10 9 9 10 -1", "6.0 6.1 . 6.0 10.1 . . 10.0 - . .",
		"f,x f,x f,x f,x f,x f,x f,x f f f -", "x", "6.0 6.1 10.0 10.1"},
	{"(match a a a b (match b a b a (pair a b)))", "8 8 7 7 6 6 7 8 -1", "- - 8.1 8.0 7.1 7.0 . . .",
		"- - a,b a,b a,b a,b a,b a,b -", "a", "7.0 7.1 8.0 8.1"},
	{"(fun x (fun y (fun x (app x y))))", "2 2 3 4 5 -1", "3.0 4.0 . . . .", "x,y x,y x,y x,y x -", "", "3.0 4.0 5.0"},

	// a binder of another name in between, and binders beside each other
	{"(fun x (let y x (pair x y)))", "4 3 3 4 5 -1", "5.0 5.0 4.0 . . .", "x x,y x,y x,y x -", "", "4.0 5.0"},
	{"(pair (fun x x) (fun y x))", "1 4 3 4 -1", "1.0 . - . .", "x - y - -", "x", "1.0 3.0"},
	{"(pair (fun x x) (fun x x))", "1 4 3 4 -1", "1.0 . 3.0 . .", "x - x - -", "", "1.0 3.0"},
	{"(if (fun x x) x (let x x x))", "1 6 6 5 5 6 -1", "1.0 . - - 5.0 . .", "x - - - x - -", "x", "1.0 5.0"},

	// names that are free, in one place and in several
	{"(app z (app a (app m z)))", "6 5 4 4 5 6 -1", "- - - - . . .", "- - - - - - -", "a m z", ""},
	{"(pair zz (pair z (pair za zz)))", "6 5 4 4 5 6 -1", "- - - - . . .", "- - - - - - -", "z za zz", ""},
	{"(pair (app x x) (fun x (app x y)))", "2 2 7 5 5 6 7 -1", "- - . 6.0 - . . .", "- - - x x x - -", "x y", "6.0"},
	{"(fun abcdefgh (pair abcdefgh abcdefg))", "2 2 3 -1", "3.0 - . .", "abcdefgh abcdefgh abcdefgh -", "abcdefg", "3.0"},

	// binders whose name is never used
	{"(fun x 1)", "1 -1", ". .", "x -", "", "1.0"},
	{"(rec f x 1 (let y 2 3))", "4 3 3 4 -1", ". . . . .", "f,x f f,y f -", "", "3.0 4.0 4.1"},

	// forms within forms
	{"(try (rec f x (app f x) (raise 1)) e (let y nil (set (ref y) (pair e f))))", "2 2 5 4 5 14 13 8 12 11 11 12 13 14 -1",
		"5.0 5.1 . . . . . 13.0 . 14.0 - . . . .", "f,x f,x f,x f f - e e,y e,y e,y e,y e,y e,y e -", "f", "5.0 5.1 13.0 14.0"},
	{"(let m (fun l (match l 0 h t (add h (app m t)))) (app m l))", "7 7 6 5 5 6 7 8 12 11 11 12 -1",
		"8.0 . 7.0 - 7.1 . . . . 12.0 - . .", "l l h,l,t h,l,t h,l,t h,l,t h,l,t l - m m m -", "l m", "7.0 7.1 8.0 12.0"},
}

func programOf(t *testing.T, s string) []impl.Node {
	t.Helper()
	l, code, at := parse(t, s)
	if code != impl.PaOk {
		t.Fatalf("Parse(%s) tells %d, %d", quoted(s), code, at)
	}
	return l
}

func bindOf(s string) impl.Bind {
	node, role, ok := strings.Cut(s, ".")
	if !ok || s == "." {
		return noBinder
	}
	n, _ := strconv.Atoi(node)
	r, _ := strconv.Atoi(role)
	return impl.Bind{Node: n, Role: r}
}

func TestScopesByHand(t *testing.T) {
	used := map[[2]int]bool{}
	for _, c := range scopeCases {
		l := programOf(t, c.text)
		mustScope(t, l)
		parents, binders, visible := strings.Fields(c.parents), strings.Fields(c.binders), strings.Fields(c.visible)
		if len(parents) != len(l) || len(binders) != len(l) || len(visible) != len(l) {
			t.Fatalf("%s has %d nodes, and %d, %d and %d are written out", c.text, len(l), len(parents), len(binders), len(visible))
		}
		for i, n := range l {
			if got := impl.ParentOf(l, i); strconv.Itoa(got) != parents[i] {
				t.Errorf("ParentOf %d is %d, want %s in %s", i, got, parents[i], c.text)
			}
			if got := impl.BinderOf(l, i); got != bindOf(binders[i]) || (n.Kind == impl.NVar) != (binders[i] != ".") {
				t.Errorf("BinderOf %d is %v, want %s in %s", i, got, binders[i], c.text)
			}
			if got := impl.Visible(l, i); strings.Join(got, ",") != strings.Trim(visible[i], "-") {
				t.Errorf("Visible %d is %v, want %s in %s", i, got, visible[i], c.text)
			}
			if b := bindOf(binders[i]); b != noBinder {
				used[[2]int{l[b.Node].Kind, b.Role}] = true
			}
		}
		if got := impl.FreeNames(l); strings.Join(got, " ") != c.free || impl.Closed(l) != (c.free == "") {
			t.Errorf("FreeNames is %v and Closed %v, want %s of %s", got, impl.Closed(l), c.free, c.text)
		}
		var sites []impl.Bind
		for _, s := range strings.Fields(c.sites) {
			sites = append(sites, bindOf(s))
		}
		if got := impl.Sites(l); !slices.Equal(got, sites) {
			t.Errorf("Sites is %v, want %s of %s", got, c.sites, c.text)
		}
	}
	if len(used) != 7 {
		t.Errorf("uses are written out of %d kinds and roles, want 7", len(used))
	}
}

func TestUsesByHand(t *testing.T) {
	for _, c := range []struct {
		text       string
		node, role int
		want       []int
	}{
		{"(fun x (app x (app x x)))", 5, 0, []int{0, 1, 2}},
		{"(fun x (app x (app y x)))", 5, 0, []int{0, 2}},
		{"(fun x 1)", 1, 0, nil},
		{"(let x (app x x) (app x x))", 6, 0, []int{3, 4}},
		{"(try (app x x) x (app x x))", 6, 0, []int{3, 4}},
		{"(rec f x (app f x) (app f x))", 6, 0, []int{0, 3}},
		{"(rec f x (app f x) (app f x))", 6, 1, []int{1}},
		{"(match (pair h r) (pair h r) h r (pair h r))", 9, 0, []int{6}},
		{"(match (pair h r) (pair h r) h r (pair h r))", 9, 1, []int{7}},
		{"(rec x x (app x x) (app x x))", 6, 0, []int{3, 4}},
		{"(rec x x (app x x) (app x x))", 6, 1, []int{0, 1}},
		{"(match x x x x (app x x))", 5, 0, nil},
		{"(match x x x x (app x x))", 5, 1, []int{2, 3}},
		{"(fun x (pair (fun x (app x x)) (app x x)))", 8, 0, []int{4, 5}},
		{"(fun x (pair (fun x (app x x)) (app x x)))", 3, 0, []int{0, 1}},
		{"(fun x (pair (fun x (app x x)) (app x x)))", 8, 1, nil},
		{"(fun x (pair (fun x (app x x)) (app x x)))", 7, 0, nil},
		{"(fun x (pair (fun x (app x x)) (app x x)))", 0, 0, nil},
		{"(fun x (pair (fun x (app x x)) (app x x)))", 9, 0, nil},
		{"(fun x y)", -1, -1, nil},
		{"(fun x y)", -1, 0, nil},
		{"x", -1, -1, nil},
		{"x", 0, 0, nil},
		{"1", -1, -1, nil},
	} {
		l := programOf(t, c.text)
		if got := impl.UsesOf(l, impl.Bind{Node: c.node, Role: c.role}); !slices.Equal(got, c.want) {
			t.Errorf("UsesOf %d, %d is %v, want %v in %s", c.node, c.role, got, c.want, c.text)
		}
	}
}

// namedBy gives each name of a program one of a few, so that they meet often; no
// two numbers of up to few to the power of their count name alike.
func namedBy(l []impl.Node, few int, number int) []impl.Node {
	out := slices.Clone(l)
	for i := range out {
		for _, name := range []*string{&out[i].Name, &out[i].Other} {
			if *name != "" {
				*name = string(rune('a' + number%few))
				number /= few
			}
		}
	}
	return out
}

func countNames(l []impl.Node) int {
	count := 0
	for _, n := range l {
		count += shapes[n.Kind-1].names
	}
	return count
}

// TestScopesOfAllSmallPrograms: P5 of all programs of up to three nodes with all
// names of two, and of those of four and five nodes with some.
func TestScopesOfAllSmallPrograms(t *testing.T) {
	for size, programs := range programsUpTo(5) {
		for i, l := range programs {
			if size > 3 {
				mustScope(t, namedBy(l, 2, i*7919))
				continue
			}
			for number := range 1 << countNames(l) {
				mustScope(t, namedBy(l, 2, number))
			}
		}
	}
}

// binding are the kinds that bind, with the kid that is filled.
var binding = []struct{ kind, names, kids, side int }{
	{impl.NFun, 1, 1, 0}, {impl.NLet, 1, 2, 0}, {impl.NLet, 1, 2, 1}, {impl.NTry, 1, 2, 0}, {impl.NTry, 1, 2, 1}, {impl.NRec, 2, 2, 0},
	{impl.NRec, 2, 2, 1}, {impl.NMatch, 2, 3, 0}, {impl.NMatch, 2, 3, 1}, {impl.NMatch, 2, 3, 2},
}

// filled is a node that binds over a program, with a use in each other kid.
func filled(b int, l []impl.Node) []impl.Node {
	use := []impl.Node{{Kind: impl.NVar, Name: "x"}}
	parts := [][]impl.Node{use, use, use}[:binding[b].kids]
	parts[binding[b].side] = l
	return over(binding[b].kind, binding[b].names, parts...)
}

// TestBindersWithinBinders: each kind that binds in each kid of each other one,
// three deep, with names of two and of three.
func TestBindersWithinBinders(t *testing.T) {
	use := over(impl.NPair, 0, []impl.Node{{Kind: impl.NVar, Name: "x"}}, []impl.Node{{Kind: impl.NVar, Name: "y"}})
	number := 0
	for a := range binding {
		for b := range binding {
			two := filled(a, filled(b, use))
			for k := range 1 << countNames(two) {
				if k%13 == number%13 {
					mustScope(t, namedBy(two, 2, k))
				}
				number++
			}
			for c := range binding {
				three := filled(c, two)
				for range 4 {
					number += 7919
					mustScope(t, namedBy(three, 2, number))
					mustScope(t, namedBy(three, 3, number))
				}
			}
		}
	}
}

// deepBinders are programs of just that many nodes in which binders stand in one
// another, as deep as can be.
func deepBinders(nodes int) [][]impl.Node {
	var out [][]impl.Node
	for b := range binding {
		l := []impl.Node{{Kind: impl.NVar, Name: "x"}}
		for len(l)+binding[b].kids <= nodes {
			l = filled(b, l)
		}
		for len(l) < nodes {
			l = over(impl.NRaise, 0, l)
		}
		out = append(out, l)
	}
	return out
}

func TestScopesOfGreatPrograms(t *testing.T) {
	for _, nodes := range []int{20, impl.MaxNodes - 1, impl.MaxNodes} {
		for i, l := range append(deepBinders(nodes), greatPrograms(nodes)...) {
			for _, m := range [][]impl.Node{l, dressed(l, i), namedBy(l, 1, 0), namedBy(l, 3, 123456789)} {
				if len(m) != nodes {
					t.Fatalf("a program of %d nodes has %d", nodes, len(m))
				}
				mustScope(t, m)
			}
		}
	}
	for _, nodes := range []int{impl.MaxNodes + 1, impl.MaxNodes + 2, 400} {
		for _, l := range append(deepBinders(nodes), greatPrograms(nodes)...) {
			mustHaveNoScope(t, "too many nodes", l)
		}
	}
	long := slices.Repeat([]impl.Node{{Kind: impl.NVar, Name: "x"}}, 100000)
	if impl.ParentOf(long, 0) != -1 || impl.BinderOf(long, 0) != noBinder || len(impl.FreeNames(long)) != 0 || impl.Closed(long) ||
		len(impl.UsesOf(long, noBinder)) != 0 || len(impl.Visible(long, 0)) != 0 || len(impl.Sites(long)) != 0 {
		t.Error("a very long list")
	}
}

// TestDeepestBinder: among as many binders of one name as there can be, the use
// belongs to the innermost one; of a name of its own, to the outermost.
func TestDeepestBinder(t *testing.T) {
	l := []impl.Node{{Kind: impl.NVar, Name: "x"}}
	for len(l) < impl.MaxNodes {
		l = over(impl.NFun, 1, l)
	}
	last := len(l) - 1
	if b := impl.BinderOf(l, 0); b != (impl.Bind{Node: 1}) {
		t.Errorf("of %d binders the innermost is %v", last, b)
	}
	if u := impl.UsesOf(l, impl.Bind{Node: last}); len(u) != 0 {
		t.Errorf("the outermost of %d has the uses %v", last, u)
	}
	if v := impl.Visible(l, 0); !slices.Equal(v, []string{"x"}) || len(impl.Sites(l)) != last || !impl.Closed(l) {
		t.Errorf("under %d binders of x %v is visible", last, v)
	}
	m := turned(turned(l, last, func(n *impl.Node) { n.Name = "outer" }), 0, func(n *impl.Node) { n.Name = "outer" })
	if b := impl.BinderOf(m, 0); b != (impl.Bind{Node: last}) {
		t.Errorf("the outermost binder is %v", b)
	}
	if v := impl.Visible(m, 0); !slices.Equal(v, []string{"outer", "x"}) || !slices.Equal(impl.Visible(m, last-1), []string{"outer"}) {
		t.Errorf("%v is visible", v)
	}
}

// TestNamesThatAreNearlyAlike: two of them are not one name.
func TestNamesThatAreNearlyAlike(t *testing.T) {
	names := []string{"a", "aa", "aaaaaaa", "aaaaaaaa", "b", "ab", "ba", "funs", "fu", "zzzzzzzz"}
	for _, x := range names {
		for _, y := range names {
			l := []impl.Node{{Kind: impl.NVar, Name: strings.Clone(x)}, {Kind: impl.NFun, Name: strings.Clone(y)}}
			mustScope(t, l)
			if impl.Closed(l) != (x == y) {
				t.Errorf("Closed of (fun %s %s) is %v", y, x, x != y)
			}
		}
	}
	l := []impl.Node{{Kind: impl.NVar, Name: names[0]}}
	for _, n := range names[1:] {
		l = over(impl.NPair, 0, l, []impl.Node{{Kind: impl.NVar, Name: n}})
	}
	want := []string{"a", "aa", "aaaaaaa", "aaaaaaaa", "ab", "b", "ba", "fu", "funs", "zzzzzzzz"}
	if got := impl.FreeNames(l); !slices.Equal(got, want) {
		t.Errorf("FreeNames is %v, want %v", got, want)
	}
	for _, n := range names {
		l = over(impl.NFun, 1, l)
		l[len(l)-1].Name = n
	}
	if got := impl.Visible(l, 0); !slices.Equal(got, want) || !impl.Closed(l) {
		t.Errorf("Visible is %v, want %v", got, want)
	}
}

// TestScopesOfParts: what is free in a part is what its binder, if any, binds
// from outside of it; all else has the same binder in the part.
func TestScopesOfParts(t *testing.T) {
	var programs [][]impl.Node
	for _, c := range scopeCases {
		programs = append(programs, programOf(t, c.text))
	}
	for i, l := range deepBinders(24) {
		programs = append(programs, namedBy(l, 2, 7919*i+98765432))
	}
	for _, l := range programs {
		for i := range l {
			part, start := impl.Part(l, i), impl.StartOf(l, i)
			var free []string
			for j, n := range part {
				inner, outer := impl.BinderOf(part, j), impl.BinderOf(l, start+j)
				if inner != noBinder && outer != (impl.Bind{Node: inner.Node + start, Role: inner.Role}) ||
					inner == noBinder && outer.Node >= start && outer.Node <= i {
					t.Fatalf("BinderOf %d is %v in the part %d, and %v in all of %s", j, inner, i, outer, quoted(joined(wordsOfAll(l))))
				}
				if n.Kind == impl.NVar && inner == noBinder {
					free = append(free, n.Name)
				}
				if p := impl.ParentOf(part, j); j < len(part)-1 && p+start != impl.ParentOf(l, start+j) {
					t.Fatalf("ParentOf %d is %d in the part %d of %s", j, p, i, tell(l))
				}
			}
			if got := impl.FreeNames(part); !slices.Equal(got, sortedOnce(free)) {
				t.Fatalf("FreeNames of the part %d is %v, want %v", i, got, sortedOnce(free))
			}
		}
	}
}

// TestScopesOfOneWrongField: each field of each node in turn is not right, in a
// program that is otherwise.
func TestScopesOfOneWrongField(t *testing.T) {
	var programs [][]impl.Node
	for _, c := range scopeCases {
		programs = append(programs, programOf(t, c.text))
	}
	for _, s := range shapes {
		l := oneOfEach(s.kind)
		programs = append(programs, l, over(impl.NFun, 1, l), over(impl.NMatch, 2, l, l, l))
	}
	for _, l := range programs {
		mustScope(t, l)
		for i := range l {
			for _, m := range wrongTurns(l, i) {
				mustHaveNoScope(t, "one wrong field", m)
			}
		}
	}
}

// wrongLists are lists that are not right, some of them with names that are free
// or bound, and some without names.
func wrongLists() map[string][]impl.Node {
	one, name := impl.Node{Kind: impl.NInt, N: 1}, impl.Node{Kind: impl.NVar, Name: "x"}
	return map[string][]impl.Node{
		"nil":                                nil,
		"no nodes":                           {},
		"room for nodes":                     make([]impl.Node, 0, 5),
		"the zero node":                      {{}},
		"kind 20":                            {{Kind: 20}},
		"two programs":                       {name, name},
		"two numbers":                        {one, one},
		"the last part begins at 1":          {one, name, {Kind: impl.NFun, A: 1, Name: "x"}},
		"both kids are one node":             {name, name, {Kind: impl.NLet, A: 1, B: 1, Name: "x"}},
		"both kids are one number":           {one, one, {Kind: impl.NPair, A: 1, B: 1}},
		"the kids stand the other way round": {one, name, {Kind: impl.NLet, A: 1, B: 0, Name: "x"}},
		"a kid is itself":                    {{Kind: impl.NFun, Name: "x"}},
		"a kid is behind its node":           {{Kind: impl.NFun, A: 1, Name: "x"}, name},
		"a ring":                             {{Kind: impl.NFun, A: 1, Name: "x"}, {Kind: impl.NFun, A: 0, Name: "x"}},
		"a kid is missing":                   {name, {Kind: impl.NLet, A: -1, B: 0, Name: "x"}},
		"a kid beside a number":              {one, {Kind: impl.NInt, A: 1}},
		"one more behind a right one":        {name, {Kind: impl.NFun, Name: "x"}, name},
		"no name is bound":                   {name, {Kind: impl.NFun}},
		"one of two names is bound":          {name, name, {Kind: impl.NRec, B: 1, Name: "x"}},
		"a key is bound":                     {name, {Kind: impl.NFun, Name: "let"}},
		"a key is bound over a number":       {one, {Kind: impl.NFun, Name: "let"}},
		"a key is used":                      {{Kind: impl.NVar, Name: "let"}, {Kind: impl.NFun, Name: "x"}},
		"two names for one":                  {name, {Kind: impl.NFun, Name: "x", Other: "y"}},
		"a number that is too great":         {{Kind: impl.NInt, N: 65536}},
		"a number below 0":                   {{Kind: impl.NInt, N: -1}},
		"a fifth operation":                  {one, one, {Kind: impl.NPrim, A: 0, B: 1, N: 4}},
	}
}

func TestScopesOfWrongLists(t *testing.T) {
	for what, l := range wrongLists() {
		mustHaveNoScope(t, what, l)
		if impl.ParentOf(l, 0) != -1 || impl.BinderOf(l, 0) != noBinder || len(impl.Visible(l, 0)) != 0 || len(impl.UsesOf(l, impl.Bind{})) != 0 {
			t.Errorf("node 0 of %s", what)
		}
	}
}

// askScopes calls all functions of chapter 6, and writes into what they answer.
func askScopes(l []impl.Node) {
	spoil := func(names []string) {
		for k := range names {
			names[k] = "gone"
		}
	}
	impl.Closed(l)
	spoil(impl.FreeNames(l))
	sites := impl.Sites(l)
	for i := -1; i <= len(l); i++ {
		impl.ParentOf(l, i)
		impl.BinderOf(l, i)
		spoil(impl.Visible(l, i))
	}
	for k, b := range append(sites, noBinder, impl.Bind{Node: len(l)}) {
		uses := impl.UsesOf(l, b)
		for u := range uses {
			uses[u] = -7
		}
		if k < len(sites) {
			sites[k] = impl.Bind{Node: -7, Role: -7}
		}
	}
}

// mustLeaveAlone asks with a list behind which there is room: neither is written
// into.
func mustLeaveAlone(t *testing.T, l []impl.Node, ask func(l []impl.Node)) {
	t.Helper()
	room := append(slices.Clone(l), slices.Repeat([]impl.Node{{Kind: 99, Name: "behind"}}, 10)...)
	before := slices.Clone(room)
	ask(room[:len(l)])
	if !slices.Equal(room, before) {
		t.Fatalf("%s were written into", tell(l))
	}
}

// TestScopesLeaveNodesAsTheyAre: neither a list nor the room behind it is written
// into.
func TestScopesLeaveNodesAsTheyAre(t *testing.T) {
	programs := append(deepBinders(20), nil, []impl.Node{{Kind: impl.NFun, A: 3, Name: "x"}}, deepBinders(impl.MaxNodes)[5], deepBinders(impl.MaxNodes + 1)[5])
	for _, c := range scopeCases {
		l := programOf(t, c.text)
		programs = append(programs, l, turned(l, len(l)-1, func(n *impl.Node) { n.N = -1 }))
	}
	for _, l := range programs {
		mustLeaveAlone(t, l, askScopes)
	}
}

// TestScopesAnswerInNewMemory: an answer shares no memory with the nodes, nor with
// another answer, and nothing is kept of one.
func TestScopesAnswerInNewMemory(t *testing.T) {
	for _, c := range scopeCases {
		l := programOf(t, c.text)
		var names []string
		for _, n := range l {
			names = append(names, n.Name, n.Other)
		}
		for i := range l {
			for _, told := range [][]string{impl.FreeNames(l), impl.Visible(l, i), impl.FreeNames(l), impl.Visible(l, i)} {
				for _, s := range told {
					for _, n := range names {
						if liesIn(s, n) || liesIn(n, s) {
							t.Fatalf("the name %q shares memory with one of %s, or of another answer", s, c.text)
						}
					}
				}
				names = append(names, told...)
			}
		}
		askScopes(l)
		mustScope(t, l)
	}
}

// TestScopesKeepNothing: a program is told of as ever behind others.
func TestScopesKeepNothing(t *testing.T) {
	l := programOf(t, "(rec x x (add x y) (fun z (app x z)))")
	for _, other := range [][]impl.Node{nil, {{}}, oneOfEach(impl.NMatch), oneOfEach(impl.NFun), {{Kind: impl.NFun, A: 7, Name: "y"}}, deepBinders(150)[6], deepBinders(151)[6]} {
		askScopes(other)
		mustScope(t, l)
	}
}

// dice tells numbers below n that look random, and are the same in each run.
func dice(state uint32) func(n int) int {
	return func(n int) int {
		state = state*1664525 + 1013904223
		return int(state>>8) % n
	}
}

// strayFields are numbers of which few are right in a field of a node.
var strayFields = []int{0, 0, 0, 1, 2, 3, -1, 4, 150, 65535, 65536, math.MinInt, math.MaxInt}

// anyNodes are less than most nodes, kinds that bind more often than others. Many
// lists of few are right: names are mostly one of the first three, which are.
func anyNodes(next func(n int) int, most int, names []string) []impl.Node {
	l := make([]impl.Node, next(most))
	for i := range l {
		s := shapes[[]int{0, 2, 4, 5, 13, 18, next(19)}[next(7)]]
		l[i] = impl.Node{Kind: s.kind}
		for k := range s.kids {
			*[]*int{&l[i].A, &l[i].B, &l[i].C}[k] = i - s.kids + k
		}
		if s.names >= 1 {
			l[i].Name = names[next(3)]
		}
		if s.names >= 2 {
			l[i].Other = names[next(3)]
		}
		for range next(30) / 28 {
			*[]*int{&l[i].Kind, &l[i].A, &l[i].B, &l[i].C, &l[i].N}[next(5)] = strayFields[next(len(strayFields))]
			*[]*string{&l[i].Name, &l[i].Other}[next(2)] = names[next(len(names))]
		}
	}
	return l
}

// TestScopesOfAnyNodes: no list makes a function of chapter 6 panic, and each
// tells of it what it should, right or not.
func TestScopesOfAnyNodes(t *testing.T) {
	next := dice(7)
	right := 0
	for range 40000 {
		l := anyNodes(next, 7, []string{"x", "y", "x", "", "y", "abcdefghi", "fun", "\xff"})
		if rightByRule(l) {
			right++
			mustScope(t, l)
		} else {
			mustHaveNoScope(t, "any nodes", l)
		}
	}
	if right < 1000 {
		t.Errorf("only %d of the lists were right", right)
	}
}
