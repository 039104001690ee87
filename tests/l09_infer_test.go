package tests

import (
	"slices"
	"strings"
	"testing"
	"time"

	"loop.example/g01292/impl"
)

// valueByRule says it of a node of a right program.
func valueByRule(l []impl.Node, i int) bool {
	all := slices.Contains([]int{impl.NVar, impl.NInt, impl.NFun, impl.NNil, impl.NPair, impl.NCons}, l[i].Kind)
	for _, k := range []int{l[i].A, l[i].B, l[i].C}[:shapes[l[i].Kind-1].kids] {
		all = all && (l[i].Kind == impl.NFun || valueByRule(l, k))
	}
	return all
}

// seenName is a name with its type, or, where each use has its own, with what makes
// the type of one more use.
type seenName struct {
	name string
	of   typeTree
	copy func() typeTree
}

// typing finds the types of a program without a free choice: a let's value, or an
// NRec, is gone through once more for each use of its Name, as if it stood there
// itself. All that has to be alike is put together before any two are made so.
type typing struct {
	l      []impl.Node
	alike  [][2]typeTree
	nodes  []typeTree
	names  []typeTree
	stands []*typeTree // what each variable stands for, nil where it is free
	steps  int
}

func tree(kind int, kids ...typeTree) typeTree { return typeTree{kind: kind, kids: kids} }

func (o *typing) free() typeTree {
	o.stands = append(o.stands, nil)
	return typeTree{kind: impl.TyVar, v: len(o.stands) - 1}
}

func (o *typing) same(x typeTree, y typeTree) {
	o.alike = append(o.alike, [2]typeTree{x, y})
}

// node goes through one node. Only what the program has itself counts for its
// types, not what is gone through once more.
func (o *typing) node(i int, here []seenName, counts bool) typeTree {
	if o.steps++; o.steps > 400000 {
		panic("too many copies")
	}
	out := o.rule(i, here, counts)
	if counts {
		o.nodes[i] = out
	}
	return out
}

// binds puts names to those that are seen.
func (o *typing) binds(here []seenName, counts bool, more ...seenName) []seenName {
	for _, m := range more {
		if counts {
			o.names = append(o.names, m.of)
		}
	}
	return append(slices.Clone(here), more...)
}

// recursion tells the type of an NRec's Name.
func (o *typing) recursion(i int, here []seenName, counts bool) typeTree {
	n, from, to := o.l[i], o.free(), o.free()
	name := tree(impl.TyFun, from, to)
	o.same(to, o.node(n.A, o.binds(here, counts, seenName{n.Name, name, nil}, seenName{n.Other, from, nil}), counts))
	return name
}

func (o *typing) rule(i int, here []seenName, counts bool) typeTree {
	n, number := o.l[i], tree(impl.TyInt)
	kid := func(k int) typeTree { return o.node(k, here, counts) }
	switch n.Kind {
	case impl.NVar:
		for _, s := range slices.Backward(here) {
			if s.name == n.Name && s.copy != nil {
				return s.copy()
			}
			if s.name == n.Name {
				return s.of
			}
		}
		panic("a free name")
	case impl.NInt:
		return number
	case impl.NNil:
		return tree(impl.TyList, o.free())
	case impl.NFun:
		from := o.free()
		return tree(impl.TyFun, from, o.node(n.A, o.binds(here, counts, seenName{n.Name, from, nil}), counts))
	case impl.NApp:
		out := o.free()
		o.same(kid(n.A), tree(impl.TyFun, kid(n.B), out))
		return out
	case impl.NLet:
		name := seenName{n.Name, kid(n.A), nil}
		if valueByRule(o.l, n.A) {
			name.copy = func() typeTree { return o.node(n.A, here, false) }
		}
		return o.node(n.B, o.binds(here, counts, name), counts)
	case impl.NRec:
		again := func() typeTree { return o.recursion(i, here, false) }
		return o.node(n.B, o.binds(here, counts, seenName{n.Name, o.recursion(i, here, counts), again}), counts)
	case impl.NIf:
		o.same(kid(n.A), number)
		out := kid(n.B)
		o.same(kid(n.C), out)
		return out
	case impl.NPrim:
		o.same(kid(n.A), number)
		o.same(kid(n.B), number)
		return number
	case impl.NPair:
		return tree(impl.TyPair, kid(n.A), kid(n.B))
	case impl.NFst, impl.NSnd:
		first, second := o.free(), o.free()
		o.same(kid(n.A), tree(impl.TyPair, first, second))
		if n.Kind == impl.NFst {
			return first
		}
		return second
	}
	return o.ruleOfTheRest(i, here, counts)
}

func (o *typing) ruleOfTheRest(i int, here []seenName, counts bool) typeTree {
	n, number := o.l[i], tree(impl.TyInt)
	kid := func(k int) typeTree { return o.node(k, here, counts) }
	switch n.Kind {
	case impl.NCons:
		out := tree(impl.TyList, kid(n.A))
		o.same(kid(n.B), out)
		return out
	case impl.NMatch:
		part := o.free()
		list := tree(impl.TyList, part)
		o.same(kid(n.A), list)
		out := kid(n.B)
		o.same(o.node(n.C, o.binds(here, counts, seenName{n.Name, part, nil}, seenName{n.Other, list, nil}), counts), out)
		return out
	case impl.NRef:
		return tree(impl.TyRef, kid(n.A))
	case impl.NGet:
		out := o.free()
		o.same(kid(n.A), tree(impl.TyRef, out))
		return out
	case impl.NSet:
		o.same(kid(n.A), tree(impl.TyRef, kid(n.B)))
		return number
	case impl.NRaise:
		o.same(kid(n.A), number)
		return o.free()
	}
	out := kid(n.A)
	o.same(o.node(n.B, o.binds(here, counts, seenName{n.Name, number, nil}), counts), out)
	return out
}

func (o *typing) head(x typeTree) typeTree {
	for x.kind == impl.TyVar && o.stands[x.v] != nil {
		x = *o.stands[x.v]
	}
	return x
}

// within asks whether a variable is in a type; each variable is asked once.
func (o *typing) within(v int, x typeTree, asked map[int]bool) bool {
	if x.kind == impl.TyVar {
		if x.v == v || asked[x.v] {
			return x.v == v
		}
		asked[x.v] = true
		return o.stands[x.v] != nil && o.within(v, *o.stands[x.v], asked)
	}
	return slices.ContainsFunc(x.kids, func(k typeTree) bool { return o.within(v, k, asked) })
}

func (o *typing) solve() bool {
	for len(o.alike) > 0 {
		last := len(o.alike) - 1
		x, y := o.head(o.alike[last][0]), o.head(o.alike[last][1])
		o.alike = o.alike[:last]
		if x.kind != impl.TyVar {
			x, y = y, x
		}
		switch {
		case x.kind == impl.TyVar && y.kind == impl.TyVar && x.v == y.v:
		case x.kind == impl.TyVar:
			if o.within(x.v, y, map[int]bool{}) {
				return false
			}
			o.stands[x.v] = &y
		case x.kind != y.kind:
			return false
		default:
			for k := range x.kids {
				o.same(x.kids[k], y.kids[k])
			}
		}
	}
	return true
}

// written is a type written out whole, if it has at most so many parts.
func (o *typing) written(x typeTree, most int) (typeTree, bool) {
	out := o.head(x)
	kids := out.kids
	out.kids = nil
	for _, k := range kids {
		kid, ok := o.written(k, most-out.size())
		if !ok {
			return out, false
		}
		out.kids = append(out.kids, kid)
	}
	return out, out.size() <= most
}

func freeByRule(l []impl.Node) bool {
	scopes := scopesByRule(l)
	for i, n := range l {
		if n.Kind == impl.NVar && binderByRule(n, scopes[i]) == noBinder {
			return true
		}
	}
	return false
}

// typesByRule tells the type of each node and TyOk, or the code of what there is
// instead.
func typesByRule(l []impl.Node) ([]string, int) {
	switch {
	case !rightByRule(l):
		return nil, impl.TyBad
	case freeByRule(l):
		return nil, impl.TyFree
	}
	o := typing{l: l, nodes: make([]typeTree, len(l))}
	o.node(len(l)-1, nil, true)
	if !o.solve() {
		return nil, impl.TyNone
	}
	for _, x := range o.names {
		if _, ok := o.written(x, 60); !ok {
			return nil, impl.TyNone
		}
	}
	var texts []string
	for _, x := range o.nodes {
		whole, ok := o.written(x, 60)
		if !ok {
			return nil, impl.TyNone
		}
		texts = append(texts, whole.text())
	}
	return texts, impl.TyOk
}

// mustTell holds Infer, NodeTypes and Typed against what they should tell: texts of
// each node, or none and a code.
func mustTell(t *testing.T, l []impl.Node, texts []string, code int) {
	t.Helper()
	whole := ""
	if code == impl.TyOk {
		whole = texts[len(texts)-1]
	}
	if got, c := impl.Infer(l); got != whole || c != code {
		t.Fatalf("Infer is %q, %d, want %q, %d of %s", got, c, whole, code, textOf(l))
	}
	if got := impl.NodeTypes(l); !slices.Equal(got, texts) {
		t.Fatalf("NodeTypes is %q, want %q of %s", got, texts, textOf(l))
	}
	if got := impl.Typed(l); got != (code == impl.TyOk) {
		t.Fatalf("Typed is %v beside the code %d of %s", got, code, textOf(l))
	}
}

// mustInfer holds the types of a right program against the rules. It tells the code.
func mustInfer(t *testing.T, l []impl.Node) int {
	t.Helper()
	texts, code := typesByRule(l)
	mustTell(t, l, texts, code)
	return code
}

// mustHaveValues holds IsValue of each node of a right program against the rule.
func mustHaveValues(t *testing.T, l []impl.Node) {
	t.Helper()
	for i := range l {
		if got := impl.IsValue(l, i); got != valueByRule(l, i) {
			t.Fatalf("IsValue %d is %v of %s", i, got, textOf(l))
		}
	}
	for _, i := range strayNumbers(len(l)) {
		if impl.IsValue(l, i) {
			t.Fatalf("IsValue is true of node %d of %s", i, textOf(l))
		}
	}
}

// mustBeBad asks for what chapter 9 says of nodes that are not right.
func mustBeBad(t *testing.T, what string, l []impl.Node) {
	t.Helper()
	if got, code := impl.Infer(l); got != "" || code != impl.TyBad {
		t.Fatalf("%s: Infer is %q, %d of %s", what, got, code, tell(l))
	}
	if got := impl.NodeTypes(l); len(got) != 0 || impl.Typed(l) {
		t.Fatalf("%s: NodeTypes is %q and Typed %v of %s", what, got, impl.Typed(l), tell(l))
	}
	for _, i := range strayNumbers(len(l)) {
		if impl.IsValue(l, i) {
			t.Fatalf("%s: IsValue is true of node %d of %s", what, i, tell(l))
		}
	}
	for i := range min(len(l), 200) {
		if impl.IsValue(l, i) {
			t.Fatalf("%s: IsValue is true of node %d of %s", what, i, tell(l))
		}
	}
}

func TestConstantsOfTypedPrograms(t *testing.T) {
	got := []int{impl.TyOk, impl.TyBad, impl.TyFree, impl.TyNone}
	if !slices.Equal(got, []int{0, 1, 2, 3}) {
		t.Errorf("the constants are %v", got)
	}
}

// inferCases are programs that are right and closed, with their type, or without
// one, written out by hand. Of P8 they hold which programs have a type, and which.
var inferCases = []struct{ text, want string }{
	// each kind where its rule holds
	{"7", "int"},
	{"nil", "(list '0)"},
	{"(fun x x)", "('0 -> '0)"},
	{"(fun x 1)", "('0 -> int)"},
	{"(fun x (fun y x))", "('0 -> ('1 -> '0))"},
	{"(fun x (fun y y))", "('0 -> ('1 -> '1))"},
	{"(app (fun x x) 1)", "int"},
	{"(app (fun x (pair x x)) 1)", "(int * int)"},
	{"(app (fun x 1) nil)", "int"},
	{"(fun f (app f 1))", "((int -> '0) -> '0)"},
	{"(fun f (fun x (app f x)))", "(('0 -> '1) -> ('0 -> '1))"},
	{"(fun x (fun f (app f x)))", "('0 -> (('0 -> '1) -> '1))"},
	{"(fun f (fun g (fun x (app f (app g x)))))", "(('0 -> '1) -> (('2 -> '0) -> ('2 -> '1)))"},
	{"(let x 1 x)", "int"},
	{"(let x 1 (pair x x))", "(int * int)"},
	{"(let x nil 1)", "int"},
	{"(rec f x x f)", "('0 -> '0)"},
	{"(rec f x (app f x) f)", "('0 -> '1)"},
	{"(rec f x 1 nil)", "(list '0)"},
	{"(rec f x (if x (app f (sub x 1)) nil) f)", "(int -> (list '0))"},
	{"(rec f x (pair x x) (app f 1))", "(int * int)"},
	{"(rec f x (add (app f x) x) f)", "(int -> int)"},
	{"(rec f x (fun y (app (app f y) x)) f)", "('0 -> ('0 -> '1))"},
	{"(if 1 2 3)", "int"},
	{"(if 1 nil (cons 2 nil))", "(list int)"},
	{"(if 1 (cons 2 nil) nil)", "(list int)"},
	{"(fun c (fun a (fun b (if c a b))))", "(int -> ('0 -> ('0 -> '0)))"},
	{"(add 1 2)", "int"},
	{"(sub 1 2)", "int"},
	{"(less 1 2)", "int"},
	{"(same 1 2)", "int"},
	{"(fun x (fun y (add x y)))", "(int -> (int -> int))"},
	{"(fun x (fun y (sub x y)))", "(int -> (int -> int))"},
	{"(fun x (fun y (less x y)))", "(int -> (int -> int))"},
	{"(fun x (fun y (same x y)))", "(int -> (int -> int))"},
	{"(pair 1 nil)", "(int * (list '0))"},
	{"(pair nil nil)", "((list '0) * (list '1))"},
	{"(fun x (fun y (pair x y)))", "('0 -> ('1 -> ('0 * '1)))"},
	{"(fst (pair 1 nil))", "int"},
	{"(snd (pair 1 nil))", "(list '0)"},
	{"(fun p (fst p))", "(('0 * '1) -> '0)"},
	{"(fun p (snd p))", "(('0 * '1) -> '1)"},
	{"(fun p (pair (snd p) (fst p)))", "(('0 * '1) -> ('1 * '0))"},
	{"(fun p (fst (snd p)))", "(('0 * ('1 * '2)) -> '1)"},
	{"(cons 1 nil)", "(list int)"},
	{"(cons nil nil)", "(list (list '0))"},
	{"(cons 1 (cons 2 nil))", "(list int)"},
	{"(fun x (fun l (cons x l)))", "('0 -> ((list '0) -> (list '0)))"},
	{"(fun l (match l 0 h t h))", "((list int) -> int)"},
	{"(fun l (match l nil h t t))", "((list '0) -> (list '0))"},
	{"(fun l (fun d (match l d h t h)))", "((list '0) -> ('0 -> '0))"},
	{"(fun l (match l 1 h t 2))", "((list '0) -> int)"},
	{"(match nil nil h t (cons (cons h t) nil))", "(list (list '0))"},
	{"(match (cons 1 nil) nil h t (cons (add h 1) t))", "(list int)"},
	{"(ref 1)", "(ref int)"},
	{"(fun x (ref x))", "('0 -> (ref '0))"},
	{"(get (ref nil))", "(list '0)"},
	{"(fun r (get r))", "((ref '0) -> '0)"},
	{"(set (ref 1) 2)", "int"},
	{"(fun r (fun x (set r x)))", "((ref '0) -> ('0 -> int))"},
	{"(raise 1)", "'0"},
	{"(fun x (raise x))", "(int -> '0)"},
	{"(try 1 e e)", "int"},
	{"(try 1 e 2)", "int"},
	{"(try nil e (cons e nil))", "(list int)"},
	{"(try (cons 1 nil) e nil)", "(list int)"},
	{"(try (raise 1) e (cons e nil))", "(list int)"},
	{"(fun f (fun d (try (app f 1) e d)))", "((int -> '0) -> ('0 -> '0))"},
	{"(fun x (try x e x))", "('0 -> '0)"},

	// what is raised is anything
	{"(add (raise 1) (raise 2))", "int"},
	{"(app (raise 1) nil)", "'0"},
	{"(app (fun x (add x 1)) (raise 1))", "int"},
	{"(if (raise 1) (raise 2) nil)", "(list '0)"},
	{"(if 1 (raise 1) (raise 2))", "'0"},
	{"(fst (raise 1))", "'0"},
	{"(snd (raise 1))", "'0"},
	{"(match (raise 1) (raise 2) h t t)", "(list '0)"},
	{"(cons (raise 1) (raise 2))", "(list '0)"},
	{"(get (raise 1))", "'0"},
	{"(set (raise 1) nil)", "int"},
	{"(raise (raise 1))", "'0"},
	{"(try (raise 1) e (raise e))", "'0"},
	{"(pair (raise 1) (raise 2))", "('0 * '1)"},
	{"(fun x (if x (raise 1) (fun y y)))", "(int -> ('0 -> '0))"},
	{"(let x (raise 1) (add x 1))", "int"},

	// an NApp of what is no function, and of another argument
	{"(app 1 2)", ""},
	{"(app nil 1)", ""},
	{"(app (pair 1 2) 1)", ""},
	{"(app (ref 1) 1)", ""},
	{"(app (cons 1 nil) 0)", ""},
	{"(app (add 1 2) 3)", ""},
	{"(fun x (app (add x 1) x))", ""},
	{"(app (fun x (add x 1)) nil)", ""},
	{"(app (fun x (fst x)) 1)", ""},
	{"(app (fun x (get x)) (pair 1 2))", ""},
	{"(app (rec f x (add x 1) f) (fun y y))", ""},
	{"(fun f (pair (app f 1) (app f nil)))", ""},
	{"(app (app (fun x (fun y (if 1 x y))) 1) nil)", ""},

	// an NIf whose A is no int, and whose B and C are of two types
	{"(if nil 1 2)", ""},
	{"(if (fun x x) 1 2)", ""},
	{"(if (pair 1 2) 1 2)", ""},
	{"(if (ref 1) 1 2)", ""},
	{"(if 1 2 nil)", ""},
	{"(if 1 nil 2)", ""},
	{"(if 1 (fun x x) (pair 1 2))", ""},
	{"(if 1 (ref 1) (cons 1 nil))", ""},
	{"(if 1 (cons 1 nil) (cons nil nil))", ""},
	{"(fun x (if x x nil))", ""},
	{"(fun x (if x nil x))", ""},
	{"(fun f (if 1 (app f 1) (app f nil)))", ""},

	// each of the four with either side no int
	{"(add nil 1)", ""},
	{"(add 1 nil)", ""},
	{"(sub (pair 1 1) 1)", ""},
	{"(sub 1 (pair 1 1))", ""},
	{"(less (fun x x) 1)", ""},
	{"(less 1 (fun x x))", ""},
	{"(same (ref 1) 1)", ""},
	{"(same 1 (ref 1))", ""},
	{"(same nil nil)", ""},
	{"(same (ref 1) (ref 1))", ""},
	{"(fun x (add x (fst x)))", ""},
	{"(fun x (add (fst x) x))", ""},

	// no pair
	{"(fst 1)", ""},
	{"(snd 1)", ""},
	{"(fst nil)", ""},
	{"(snd nil)", ""},
	{"(fst (fun x x))", ""},
	{"(snd (fun x x))", ""},
	{"(fst (ref 1))", ""},
	{"(snd (ref 1))", ""},
	{"(fst (cons 1 nil))", ""},
	{"(snd (cons 1 nil))", ""},
	{"(fst (fst (pair 1 2)))", ""},
	{"(snd (snd (pair 1 2)))", ""},
	{"(add (fst (pair nil 1)) 1)", ""},
	{"(add (snd (pair 1 nil)) 1)", ""},

	// no list, and a list of another type
	{"(cons 1 2)", ""},
	{"(cons 1 (pair 1 nil))", ""},
	{"(cons 1 (ref 1))", ""},
	{"(cons 1 (fun x x))", ""},
	{"(cons 1 (cons nil nil))", ""},
	{"(cons nil (cons 1 nil))", ""},
	{"(cons (fun x x) (cons 1 nil))", ""},
	{"(cons 1 (cons 2 (cons nil nil)))", ""},

	// an NMatch of no list, with branches of two types, with Name and Other of another
	{"(match 1 2 h t 3)", ""},
	{"(match (pair 1 2) 3 h t 4)", ""},
	{"(match (ref nil) 3 h t 4)", ""},
	{"(match (fun x x) 3 h t 4)", ""},
	{"(match nil 1 h t nil)", ""},
	{"(match nil nil h t 1)", ""},
	{"(match nil 1 h t t)", ""},
	{"(match (cons 1 nil) nil h t h)", ""},
	{"(match (cons nil nil) 0 h t (add h 1))", ""},
	{"(match (cons 1 nil) 0 h t (add t 1))", ""},
	{"(match (cons 1 nil) 0 h t (fst h))", ""},
	{"(fun l (match l 0 h t (add h (match h 0 a b 1))))", ""},
	{"(fun l (match l 0 h t (if 1 h (app t 1))))", ""},
	{"(match (cons 1 nil) nil h t (cons h (cons t nil)))", ""},
	{"(match (cons 1 nil) nil h t (cons t nil))", "(list (list int))"},

	// no ref, and another type
	{"(get 1)", ""},
	{"(get nil)", ""},
	{"(get (fun x x))", ""},
	{"(get (pair 1 2))", ""},
	{"(set 1 1)", ""},
	{"(set nil 1)", ""},
	{"(set (pair 1 2) 1)", ""},
	{"(set (fun x x) 1)", ""},
	{"(set (ref 1) nil)", ""},
	{"(set (ref nil) 1)", ""},
	{"(set (ref (fun x x)) (pair 1 2))", ""},
	{"(set (ref 1) (ref 1))", ""},
	{"(add (get (ref nil)) 1)", ""},
	{"(fst (set (ref 1) 2))", ""},
	{"(cons nil (cons (set (ref 1) 2) nil))", ""},

	// what is raised is an int, and so is what is caught
	{"(raise nil)", ""},
	{"(raise (fun x x))", ""},
	{"(raise (pair 1 2))", ""},
	{"(raise (ref 1))", ""},
	{"(fun x (raise (fst (raise (cons x nil)))))", ""},
	{"(try 1 e (app e 1))", ""},
	{"(try nil e (match e nil h t nil))", ""},
	{"(try nil e e)", ""},
	{"(try 1 e nil)", ""},
	{"(try nil e 1)", ""},
	{"(try (fun x x) e (add e 1))", ""},
	{"(try (cons nil nil) e (cons e nil))", ""},

	// a let's value of each kind at two types
	{"(let f (fun x x) (pair (app f 1) (app f nil)))", "(int * (list '0))"},
	{"(let l nil (pair (cons 1 l) (cons nil l)))", "((list int) * (list (list '0)))"},
	{"(let f (fun x x) (let g f (pair (app g 1) (app g nil))))", "(int * (list '0))"},
	{"(let p (pair nil nil) (pair (cons 1 (fst p)) (cons nil (fst p))))", "((list int) * (list (list '0)))"},
	{"(let p (pair nil nil) (pair (cons 1 (snd p)) (cons nil (snd p))))", "((list int) * (list (list '0)))"},
	{"(let l (cons nil nil) (pair (cons (cons 1 nil) l) (cons (cons nil nil) l)))", "((list (list int)) * (list (list (list '0))))"},
	{"(let p (pair 1 (cons (fun x x) nil)) (match (snd p) nil h t (match (snd p) nil i s (cons (app h 1) (app i nil)))))", "(list int)"},
	{"(let l (cons (fun x x) nil) (pair (match l 1 h t (app h 1)) (match l nil h t (app h nil))))", "(int * (list '0))"},
	{"(let p (pair (fun x x) (fun x x)) (pair (app (fst p) 1) (app (snd p) nil)))", "(int * (list '0))"},
	{"(let p (pair (pair nil (fun x x)) (cons 1 (cons 2 nil))) (pair (app (snd (fst p)) 1) (app (snd (fst p)) nil)))", "(int * (list '0))"},
	{"(let i (fun x x) (app i i))", "('0 -> '0)"},
	{"(let i (fun x x) (app (app i i) (app (app i i) 1)))", "int"},
	{"(let k (fun x (fun y x)) (pair (app (app k 1) nil) (app (app k nil) 1)))", "(int * (list '0))"},
	{"(let p (fun x (pair x x)) (app p (app p 1)))", "((int * int) * (int * int))"},
	{"(let f (fun x (ref x)) (pair (app f 1) (app f nil)))", "((ref int) * (ref (list '0)))"},
	{"(let f (fun u (ref nil)) (pair (set (app f 1) (cons 1 nil)) (set (app f 2) (cons nil nil))))", "(int * int)"},
	{"(let n 5 (pair (add n 1) n))", "(int * int)"},

	// none of them: one type for all uses
	{"(let f (app (fun x x) (fun y y)) (pair (app f 1) (app f nil)))", ""},
	{"(let f (app (fun x x) (fun y y)) (pair (app f 1) (app f 2)))", "(int * int)"},
	{"(let f (app (fun x x) (fun y y)) f)", "('0 -> '0)"},
	{"(let r (ref nil) (pair (set r (cons 1 nil)) (set r (cons nil nil))))", ""},
	{"(let r (ref nil) (pair (set r (cons 1 nil)) (set r (cons 2 nil))))", "(int * int)"},
	{"(let r (ref nil) (pair (set r (cons 1 nil)) (get r)))", "(int * (list int))"},
	{"(let r (ref nil) (pair (get r) (set r (cons 1 nil))))", "((list int) * int)"},
	{"(let r (ref nil) (get r))", "(list '0)"},
	{"(let r (ref nil) 1)", "int"},
	{"(let r (ref nil) (pair r r))", "((ref (list '0)) * (ref (list '0)))"},
	{"(let r (ref nil) (let s (set r (cons 1 nil)) (match (get r) nil h t (cons (app h 1) nil))))", ""},
	{"(let r (ref (fun x x)) (let s (set r (fun y (add y 1))) (app (get r) nil)))", ""},
	{"(let r (ref (fun x x)) (let s (set r (fun y (add y 1))) (app (get r) 2)))", "int"},
	{"(let p (pair nil (ref nil)) (pair (cons 1 (fst p)) (cons nil (fst p))))", ""},
	{"(let p (pair (ref nil) nil) (pair (cons 1 (snd p)) (cons nil (snd p))))", ""},
	{"(let p (pair (app (fun x x) nil) nil) (pair (cons 1 (snd p)) (cons nil (snd p))))", ""},
	{"(let p (pair nil (app (fun x x) nil)) (pair (cons 1 (fst p)) (cons nil (fst p))))", ""},
	{"(let p (pair (raise 1) nil) (pair (cons 1 (snd p)) (cons nil (snd p))))", ""},
	{"(let p (pair (pair 1 (fst (pair 1 2))) nil) (pair (cons 1 (snd p)) (cons nil (snd p))))", ""},
	{"(let p (pair (pair 1 2) nil) (pair (cons 1 (snd p)) (cons nil (snd p))))", "((list int) * (list (list '0)))"},
	{"(let l (cons (app (fun x x) nil) nil) (pair (cons (cons 1 nil) l) (cons (cons nil nil) l)))", ""},
	{"(let l (cons nil (app (fun x x) nil)) (pair (cons (cons 1 nil) l) (cons (cons nil nil) l)))", ""},
	{"(let l (cons nil (cons nil (snd (pair 1 nil)))) (pair (cons (cons 1 nil) l) (cons (cons nil nil) l)))", ""},
	{"(let f (let g (fun x x) g) (pair (app f 1) (app f nil)))", ""},
	{"(let f (let g (fun x x) g) (app f 1))", "int"},
	{"(let f (rec g x x g) (pair (app f 1) (app f nil)))", ""},
	{"(let f (if 1 (fun x x) (fun x x)) (pair (app f 1) (app f nil)))", ""},
	{"(let f (fst (pair (fun x x) 1)) (pair (app f 1) (app f nil)))", ""},
	{"(let f (snd (pair 1 (fun x x))) (pair (app f 1) (app f nil)))", ""},
	{"(let l (match nil nil h t nil) (pair (cons 1 l) (cons nil l)))", ""},
	{"(let f (get (ref (fun x x))) (pair (app f 1) (app f nil)))", ""},
	{"(let f (raise 1) (pair (app f 1) (app f nil)))", ""},
	{"(let f (try (fun x x) e (fun x x)) (pair (app f 1) (app f nil)))", ""},
	{"(let x (raise 1) (pair (add x 1) (cons x nil)))", "(int * (list int))"},
	{"(let x (raise 1) (pair (add x 1) (fst x)))", ""},

	// what is in the type of a visible name is not free to choose: a function's argument
	{"(fun f (let g f (pair (app g 1) (app g nil))))", ""},
	{"(fun f (let g f (pair (app g 1) (app f 2))))", "((int -> '0) -> ('0 * '0))"},
	{"(fun x (let y x (pair (add y 1) (cons 1 y))))", ""},
	{"(fun x (let y x (pair (add y 1) x)))", "(int -> (int * int))"},
	{"(fun x (let g (fun y (pair x y)) (pair (app g 1) (app g nil))))", "('0 -> (('0 * int) * ('0 * (list '1))))"},
	{"(fun x (let g (fun y (pair x y)) (pair (add (fst (app g 1)) 1) (cons 1 (fst (app g 2))))))", ""},
	{"(fun x (let g (fun y x) (pair (add (app g 1) 1) (add (app g nil) 1))))", "(int -> (int * int))"},
	{"(fun x (let p (pair x nil) (pair (cons 1 (snd p)) (cons x (snd p)))))", "('0 -> ((list int) * (list '0)))"},
	{"(fun x (let p (pair x nil) (pair (add 1 (fst p)) (cons nil (fst p)))))", ""},
	{"(fun x (fun y (let p (pair x y) (pair (add (fst p) 1) (match (snd p) x h t h)))))", "(int -> ((list int) -> (int * int)))"},
	{"(fun x (fun y (let p (pair x y) (pair (add (snd p) 1) (match (snd p) x h t h)))))", ""},
	// a part of it
	{"(fun p (let g (fun u (fst p)) (pair (add (app g 1) 1) (cons 1 (app g 2)))))", ""},
	{"(fun p (let g (fun u (fst p)) (pair (app g 1) (app g nil))))", "(('0 * '1) -> ('0 * '0))"},
	{"(fun l (match l 1 h t (let g (fun u h) (pair (add (app g 1) 1) (cons 1 (app g 2))))))", ""},
	{"(fun r (let g (fun u (get r)) (pair (add (app g 1) 1) (cons 1 (app g 2)))))", ""},
	{"(fun f (let g (fun u (app f u)) (pair (app g 1) (app g nil))))", ""},
	{"(fun f (let g (fun u (app f 1)) (pair (add (app g 1) 1) (cons 1 (app g 2)))))", ""},
	{"(fun f (let g (fun u (app f 1)) (pair (app g 1) (app g nil))))", "((int -> '0) -> ('0 * '0))"},
	// a name of an NRec, an NMatch, an NTry
	{"(rec f x (let g f (pair (app g 1) (app g nil))) 0)", ""},
	{"(rec f x (let g f (fst (pair x (app g x)))) f)", "('0 -> '0)"},
	{"(rec f x (let g (fun y (app f y)) (pair (app g 1) (app g nil))) 0)", ""},
	{"(rec f x (let y x (pair (add y 1) (cons 1 y))) 0)", ""},
	{"(rec f x (let g (fun u (app f x)) (fst (pair x (add (app g 1) (match (app g 2) 1 h t 2))))) 0)", ""},
	{"(rec f x (let g (fun u x) (pair (app g 1) (app g nil))) f)", "('0 -> ('0 * '0))"},
	{"(rec f x (rec g y x (pair (app g 1) (app g nil))) f)", "('0 -> ('0 * '0))"},
	{"(rec f x (rec g y x (pair (add (app g 1) 1) (cons 1 (app g nil)))) f)", ""},
	{"(match nil 1 h t (let g h (add (app g 1) (app g nil))))", ""},
	{"(match nil 1 h t (let g h (add (app g 1) (app g 2))))", "int"},
	{"(match nil nil h t (let g t (snd (pair (cons 1 g) (cons nil g)))))", ""},
	{"(match nil nil h t (let g t (snd (pair (cons 1 g) (cons 2 g)))))", "(list int)"},
	{"(match nil 1 h t (app (fun t (let g h (add (app g 1) (app g nil)))) 2))", ""},
	{"(match nil 1 h t (app (fun t (let g h (add (app g 1) (app g 2)))) 2))", "int"},
	{"(match nil nil h t (app (fun h (let g t (snd (pair (cons 1 g) (cons nil g))))) 2))", ""},
	{"(match nil nil h t (app (fun h (let g t (snd (pair (cons 1 g) (cons 2 g))))) 2))", "(list int)"},
	{"(rec f x (app (fun x (let g (fun u (app f 1)) (add (app g 1) (match (app g 2) 1 h t 2)))) 2) 0)", ""},
	{"(rec f x (app (fun f (let g (fun u x) (add (app g 1) (match (app g 2) 1 h t 2)))) 2) 0)", ""},
	{"(match nil nil h t (let g (fun u t) (snd (pair (cons 1 (app g 1)) (cons nil (app g 2))))))", ""},
	{"(fun x (try 1 e (let g (pair e nil) (add (fst g) (match (cons 1 (snd g)) 1 h t (match (cons nil (snd g)) h i s 2))))))", "('0 -> int)"},
	{"(try 1 e (let g e (add g (fst g))))", ""},
	// an outer NLet's name whose type has none of its own choice
	{"(let r (ref nil) (let s r (pair (set s (cons 1 nil)) (set s (cons nil nil)))))", ""},
	{"(let r (ref nil) (let g (fun u r) (pair (set (app g 1) (cons 1 nil)) (set (app g 2) (cons nil nil)))))", ""},
	{"(let r (ref nil) (let g (fun u (pair u r)) (pair (fst (app g 1)) (fst (app g nil)))))", "(int * (list '0))"},
	{"(let r (ref nil) (let g (fun u (pair u (get r))) (pair (cons 1 (snd (app g 1))) (cons nil (snd (app g 2))))))", ""},
	{"(let r (ref nil) (let g (fun u (pair u (get r))) (pair (cons 1 (snd (app g 1))) (get r))))", "((list int) * (list int))"},
	// and one whose type has: its own choice binds nobody
	{"(let f (fun x x) (let g (fun y (app f y)) (pair (app g 1) (app g nil))))", "(int * (list '0))"},
	{"(let f (fun x x) (let g f (pair (app g f) (app g g))))", "(('0 -> '0) * ('1 -> '1))"},
	{"(fun z (let f (fun x (pair x z)) (let g f (pair (app g 1) (app g nil)))))", "('0 -> ((int * '0) * ((list '1) * '0)))"},
	{"(fun z (let f (fun x (pair x z)) (let g f (pair (snd (app g 1)) (add (snd (app f 1)) 1)))))", "(int -> (int * int))"},
	{"(fun z (let f (fun x (pair x z)) (let g f (pair (add (snd (app g 1)) 1) (fst (snd (app f 1)))))))", ""},
	{"(fun z (let f (fun x (pair x z)) (let g f (pair (add (snd (app g 1)) 1) (fst (snd (app g 1)))))))", ""},
	// known only once something further on made two types one
	{"(fun x (let g (fun y (if 1 x y)) (pair (app g 1) (app g nil))))", ""},
	{"(fun x (let g (fun y (if 1 x y)) (pair (app g 1) x)))", "(int -> (int * int))"},
	{"(fun x (let g (fun y (if 1 y x)) (pair (app g 1) (app g nil))))", ""},
	{"(fun x (let g (fun y (snd (pair (cons x (cons y nil)) y))) (pair (app g 1) (app g nil))))", ""},
	{"(fun x (let g (fun y (fst (pair y (cons y (cons x nil))))) (pair (app g 1) (app g nil))))", ""},
	{"(fun x (let g (fun y (let u (cons y (cons x nil)) y)) (pair (app g 1) (app g nil))))", ""},
	{"(fun x (let g (fun y (let u (cons y nil) y)) (pair (app g 1) (app g nil))))", "('0 -> (int * (list '1)))"},
	{"(fun x (fun y (let g (fun z (pair y z)) (let u (cons x (cons y nil)) (pair (app g x) (app g u))))))", "('0 -> ('0 -> (('0 * '0) * ('0 * (list '0)))))"},
	{"(fun x (fun y (let u (cons x (cons y nil)) (let g (fun z y) (pair (add (app g 1) 1) (fst x))))))", ""},
	{"(fun x (let g (fun y (pair x y)) (let h (fun z (if 1 (app g z) (pair z z))) (pair (app h 1) (app h nil)))))", ""},
	{"(fun x (let g (fun y (pair x y)) (let h (fun z (if 1 (app g z) (pair z z))) (pair (app h 1) (app h 2)))))", "(int -> ((int * int) * (int * int)))"},
	{"(fun x (let g (fun y (pair x y)) (let h (fun z (if 1 (app g z) (pair x z))) (pair (app h 1) (app h nil)))))", "('0 -> (('0 * int) * ('0 * (list '1))))"},
	{"(fun f (fun x (let g (fun y (app f y)) (if 1 (app g x) (app g 1)))))", "((int -> '0) -> (int -> '0))"},
	{"(let r (app (fun x x) nil) (let g (fun y (pair y r)) (let u (cons 1 r) (pair (app g 1) (app g nil)))))", "((int * (list int)) * ((list '0) * (list int)))"},

	// an NRec's name at two types in B, and at one in A
	{"(rec f x x (pair (app f 1) (app f nil)))", "(int * (list '0))"},
	{"(rec f x (app f x) (pair (cons 1 (app f 1)) (add 1 (app f nil))))", "((list int) * int)"},
	{"(rec f x (fst (pair x (app f 1))) (app f nil))", ""},
	{"(rec f x (fst (pair x (app f 1))) (app f 2))", "int"},
	{"(rec f x (fst (pair x (pair (app f 1) (app f nil)))) 0)", ""},
	{"(rec f x (fst (pair x (pair (app f x) (app f x)))) (pair (app f 1) (app f nil)))", "(int * (list '0))"},
	{"(rec m f (fun l (match l nil h t (cons (app f h) (app (app m f) t)))) m)", "(('0 -> '1) -> ((list '0) -> (list '1)))"},
	{"(rec m f (fun l (match l nil h t (cons (app f h) (app (app m f) t)))) (pair (app (app m (fun x (add x 1))) nil) (app (app m (fun x nil)) (cons 1 nil))))", "((list int) * (list (list '0)))"},
	{"(rec f x (fun y (if 1 (app (app f y) x) x)) f)", "('0 -> ('0 -> '0))"},
	{"(fun z (rec f x z (pair (app f 1) (app f nil))))", "('0 -> ('0 * '0))"},
	{"(fun z (rec f x (if 1 x z) (pair (app f 1) (app f nil))))", ""},
	{"(fun z (rec f x (app f z) (pair (cons z (app f z)) (add 1 (app f z)))))", "('0 -> ((list '0) * int))"},
	{"(fun z (rec f x (pair x z) (pair (app f 1) (app f nil))))", "('0 -> ((int * '0) * ((list '1) * '0)))"},

	// a let within a let, within a function, within an NRec's A and B
	{"(let f (let g (fun x x) (fun y (app g y))) (app f 1))", "int"},
	{"(let f (fun u (let g (fun x x) (pair (app g 1) (app g u)))) (pair (app f 2) (app f nil)))", "((int * int) * (int * (list '0)))"},
	{"(let a (fun x x) (let b (fun x (app a (app a x))) (let c (fun x (app b (app b x))) (pair (app c 1) (app c a)))))", "(int * ('0 -> '0))"},
	{"(fun z (let f (fun x (fun y (pair x z))) (let g (app f 1) (pair (app g 1) (app g 2)))))", "('0 -> ((int * '0) * (int * '0)))"},
	{"(fun z (let f (fun x (fun y (pair x z))) (let g (app f 1) (pair (app g 1) (app g nil)))))", ""},
	{"(rec f x (let i (fun y y) (if (app i 1) (app i x) (app i (app f x)))) (pair (app f 1) (app f nil)))", "(int * (list '0))"},
	{"(rec f x x (let g f (pair (app g 1) (app g nil))))", "(int * (list '0))"},
	{"(rec f x x (let g (app f f) (pair (app g 1) (app g nil))))", ""},
	{"(rec f x x (let g (pair f f) (pair (app (fst g) 1) (app (fst g) nil))))", "(int * (list '0))"},
	{"(rec f x (let r (ref nil) (pair (set r (cons x nil)) (get r))) (pair (app f 1) (app f nil)))", "((int * (list int)) * (int * (list (list '0))))"},
	{"(let f (fun u (let r (ref nil) r)) (pair (set (app f 1) (cons 1 nil)) (set (app f 1) (cons nil nil))))", "(int * int)"},
	{"(let f (fun x (let r (ref x) (get r))) (pair (app f 1) (app f nil)))", "(int * (list '0))"},

	// a let whose name is not used
	{"(let x (app 1 2) 3)", ""},
	{"(let x (fun y (app y y)) 3)", ""},
	{"(let x (fst nil) (fun z z))", ""},
	{"(let x (fun y y) 3)", "int"},
	{"(let x (pair 1 nil) nil)", "(list '0)"},
	{"(rec f x (app x x) 3)", ""},
	{"(rec f x (add f 1) 3)", ""},
	{"(rec f x (app f f) 3)", ""},
	{"(fun x (let y (add x 1) 2))", "(int -> int)"},
	{"(fun x (let y (fun z (add x z)) 2))", "(int -> int)"},

	// a name that two nodes bind: the inner one, and behind it the outer one again
	{"(fun x (fun x x))", "('0 -> ('1 -> '1))"},
	{"(fun x (pair (fun x (add x 1)) (cons x nil)))", "('0 -> ((int -> int) * (list '0)))"},
	{"(fun x (pair (cons x nil) (fun x (add x 1))))", "('0 -> ((list '0) * (int -> int)))"},
	{"(let x 1 (let x nil (cons 1 x)))", "(list int)"},
	{"(let x 1 (let x (pair x x) (fst x)))", "int"},
	{"(let x 1 (pair (let x nil x) (add x 1)))", "((list '0) * int)"},
	{"(let x 1 (pair (add x 1) (let x nil x)))", "(int * (list '0))"},
	{"(let x nil (add (let x 1 x) x))", ""},
	{"(let x 1 (add (let x nil x) x))", ""},
	{"(try nil x (let x (fun x x) (cons 1 (app x nil))))", "(list int)"},
	{"(match (cons 1 nil) 2 x y (let y x (add y (match (cons nil nil) 3 x z y))))", "int"},
	{"(match (cons 1 nil) nil x y (match (cons y nil) nil y x y))", "(list int)"},
	{"(let f (fun x x) (fun f (pair (app f 1) (app f nil))))", ""},
	{"(let f (fun x x) (fun f (pair (app f 1) (app f 2))))", "((int -> '0) -> ('0 * '0))"},
	{"(let f (fun x x) (pair (fun f (app f 1)) (pair (app f 1) (app f nil))))", "(((int -> '0) -> '0) * (int * (list '1)))"},
	{"(fun f (pair (app f 1) (let f (fun x x) (pair (app f 1) (app f nil)))))", "((int -> '0) -> ('0 * (int * (list '1))))"},
	{"(fun f (pair (let f (fun x x) (pair (app f 1) (app f nil))) (app f nil)))", "(((list '0) -> '1) -> ((int * (list '2)) * '1))"},
	{"(let f (fun f f) (pair (app f 1) (app f nil)))", "(int * (list '0))"},
	{"(let f (fun x x) (let f f (pair (app f 1) (app f nil))))", "(int * (list '0))"},
	{"(fun x (let x x (pair (add x 1) (cons 1 x))))", ""},
	{"(fun x (let x (fun x x) (pair (app x 1) (app x nil))))", "('0 -> (int * (list '1)))"},
	{"(fun x (app (fun x (let y x (pair (add y 1) (cons 1 y)))) x))", ""},
	{"(fun x (pair (add x 1) (fun x (let y x (fst y)))))", "(int -> (int * (('0 * '1) -> '0)))"},
	{"(fun x (fun y (let g (fun u (pair x y)) (fun x (fun y (let h (fun z (app g z)) (pair (app h 1) (app h nil))))))))", "('0 -> ('1 -> ('2 -> ('3 -> (('0 * '1) * ('0 * '1))))))"},
	{"(rec f x (rec f x (app f (add x 1)) (app f x)) (app f 1))", "'0"},
	{"(rec f x (rec f x x (pair (app f 1) (app f nil))) f)", "('0 -> (int * (list '1)))"},
	{"(rec f x (rec f x x (pair (app f 1) (app f nil))) (add 1 (fst (app f nil))))", "int"},

	// one node that binds one name twice
	{"(rec x x x x)", "('0 -> '0)"},
	{"(rec x x (add x 1) (app x 1))", "int"},
	{"(rec x x (app x 1) (app x (fun y nil)))", "(list '0)"},
	{"(rec x x (app x 1) (app x 1))", ""},
	{"(rec x x x (pair (app x 1) (app x nil)))", "(int * (list '0))"},
	{"(match (cons 1 nil) nil x x x)", "(list int)"},
	{"(match (cons 1 nil) 0 x x x)", ""},
	{"(match (cons nil nil) nil x x (match x nil y z y))", "(list '0)"},
	{"(fun x (match x nil x x x))", "((list '0) -> (list '0))"},
	{"(fun x (match x x x x (cons 1 x)))", "((list int) -> (list int))"},

	// a type that would have to stand in itself
	{"(fun x (app x x))", ""},
	{"(fun x (fun y (app (app x y) x)))", ""},
	{"(fun x (if 1 x (pair x 1)))", ""},
	{"(fun x (if 1 x (pair 1 x)))", ""},
	{"(fun x (if 1 x (cons x nil)))", ""},
	{"(fun x (cons x x))", ""},
	{"(fun x (if 1 x (ref x)))", ""},
	{"(fun r (set r r))", ""},
	{"(fun r (if 1 r (get r)))", ""},
	{"(fun x (if 1 x (fun y x)))", ""},
	{"(fun x (if 1 x (fun y (app x y))))", "(('0 -> '1) -> ('0 -> '1))"},
	{"(fun x (let y x (app y y)))", ""},
	{"(fun x (let y x (app y x)))", ""},
	{"(fun x (let y (pair x x) (app (fst y) (snd y))))", ""},
	{"(let r (ref nil) (set r (cons r nil)))", ""},
	{"(let r (ref nil) (set r (cons (get r) nil)))", ""},
	{"(let d (fun x (app x x)) d)", ""},
	{"(let i (fun x x) (app i (fun x (app i x))))", "('0 -> '0)"},
	{"(rec f x f f)", ""},
	{"(rec f x (fun y f) f)", ""},
	{"(rec f x (cons f nil) f)", ""},
	{"(rec f x (app f f) f)", ""},
	{"(rec f x (app x f) f)", ""},
	{"(rec f x (app f (pair x x)) f)", ""},
	{"(rec f x (app f (cons x nil)) f)", ""},
	{"(rec f x (pair (app f x) 1) f)", ""},
	{"(fun p (if 1 (fst p) p))", ""},
	{"(fun l (match l l h t h))", ""},
	{"(fun x (fun y (if 1 (if 1 x (pair y y)) (if 1 x (pair x y)))))", ""},
	{"(fun x (fun y (pair (cons x (cons (pair y 1) nil)) (cons y (cons (pair x 1) nil)))))", ""},
	{"(fun x (fun y (pair (cons x (cons (pair y 1) nil)) (cons y (cons nil nil)))))", "(((list '0) * int) -> ((list '0) -> ((list ((list '0) * int)) * (list (list '0)))))"},
}

func TestInferByHand(t *testing.T) {
	used := map[int]map[bool]bool{}
	for _, c := range inferCases {
		l := programOf(t, c.text)
		code := impl.TyOk
		if c.want == "" {
			code = impl.TyNone
		}
		if got, is := impl.Infer(l); got != c.want || is != code {
			t.Errorf("Infer is %q, %d, want %q, %d of %s", got, is, c.want, code, c.text)
			continue
		}
		mustInfer(t, l)
		mustHaveValues(t, l)
		for _, n := range l {
			if used[n.Kind] == nil {
				used[n.Kind] = map[bool]bool{}
			}
			used[n.Kind][c.want != ""] = true
		}
	}
	for _, s := range shapes {
		if len(used[s.kind]) != 2 {
			t.Errorf("kind %d is not in programs with and without a type", s.kind)
		}
	}
}

// nodeTypeCases are programs with the type of each node.
var nodeTypeCases = []struct{ text, want string }{
	{"nil", "(list '0)"},
	{"(fun x (fun y x))", "'0|('0 -> '1)|('0 -> ('1 -> '0))"},
	{"(let p (fun x (pair x x)) (app p 1))", "'0|'0|('0 * '0)|('0 -> ('0 * '0))|(int -> (int * int))|int|(int * int)|(int * int)"},
	// each use of a let's name at its own type, and A as it was
	{"(let f (fun x x) (pair (app f 1) (app f nil)))",
		"'0|('0 -> '0)|(int -> int)|int|int|((list '0) -> (list '0))|(list '0)|(list '0)|(int * (list '0))|(int * (list '0))"},
	{"(let i (fun x x) (app i i))", "'0|('0 -> '0)|(('0 -> '0) -> ('0 -> '0))|('0 -> '0)|('0 -> '0)|('0 -> '0)"},
	{"(let l nil (let m l (cons m (cons l l))))",
		"(list '0)|(list '0)|(list '0)|(list '0)|(list (list '0))|(list (list '0))|(list (list '0))|(list (list '0))|(list (list '0))"},
	// one type for all uses, known by one of them
	{"(let r (ref nil) (pair r (set r (cons 1 nil))))",
		"(list int)|(ref (list int))|(ref (list int))|(ref (list int))|int|(list int)|(list int)|int|((ref (list int)) * int)|((ref (list int)) * int)"},
	{"(let f (app (fun x x) (fun y y)) (pair f (app f 1)))",
		"(int -> int)|((int -> int) -> (int -> int))|int|(int -> int)|(int -> int)|(int -> int)|(int -> int)|int|int|((int -> int) * int)|((int -> int) * int)"},
	// what A has of the argument comes to be an int, what is its own stays
	{"(fun x (let g (fun y (pair x y)) (pair (app g nil) (add x 1))))",
		"int|'0|(int * '0)|('0 -> (int * '0))|((list '0) -> (int * (list '0)))|(list '0)|(int * (list '0))|int|int|int|((int * (list '0)) * int)|" +
			"((int * (list '0)) * int)|(int -> ((int * (list '0)) * int))"},
	{"(rec f x (app f x) (app f 1))", "('0 -> '1)|'0|'0|(int -> '0)|int|'0|'0"},
	{"(rec f x (fst (pair x (app f x))) (pair (app f 1) f))",
		"'0|('0 -> '0)|'0|'0|('0 * '0)|'0|(int -> int)|int|int|('0 -> '0)|(int * ('0 -> '0))|(int * ('0 -> '0))"},
	{"(match (cons nil nil) nil h t (cons 1 h))",
		"(list int)|(list (list int))|(list (list int))|(list int)|int|(list int)|(list int)|(list int)"},
	{"(fun l (match l (raise 1) h t t))", "(list '0)|int|(list '0)|(list '0)|(list '0)|((list '0) -> (list '0))"},
	{"(try (raise 1) e (fun y e))", "int|('0 -> int)|int|('0 -> int)|('0 -> int)"},
	{"(if 1 (get (ref nil)) (snd (pair 2 (cons 3 nil))))",
		"int|(list int)|(ref (list int))|(list int)|int|int|(list int)|(list int)|(int * (list int))|(list int)|(list int)"},
	{"(fun a (fun b (fun c (pair c (pair b a)))))",
		"'0|'0|'0|('0 * '1)|('0 * ('1 * '2))|('0 -> ('0 * ('1 * '2)))|('0 -> ('1 -> ('1 * ('0 * '2))))|('0 -> ('1 -> ('2 -> ('2 * ('1 * '0)))))"},
	{"(fun x (pair (fun x x) x))", "'0|('0 -> '0)|'0|(('0 -> '0) * '1)|('0 -> (('1 -> '1) * '0))"},
	{"(fun p (fst p))", "('0 * '1)|'0|(('0 * '1) -> '0)"},
	{"(fun p (snd p))", "('0 * '1)|'0|(('0 * '1) -> '1)"},
}

func TestNodeTypesByHand(t *testing.T) {
	for _, c := range nodeTypeCases {
		l := programOf(t, c.text)
		mustTell(t, l, strings.Split(c.want, "|"), impl.TyOk)
		mustInfer(t, l)
	}
}

// TestIsValueByHand: 1 for each node that is a value, 0 for each other one.
func TestIsValueByHand(t *testing.T) {
	for _, c := range []struct{ text, want string }{
		{"x", "1"}, {"7", "1"}, {"nil", "1"},
		{"(fun x x)", "11"}, {"(fun x (app x x))", "1101"}, {"(fun x (ref x))", "101"},
		{"(pair 1 x)", "111"}, {"(cons 1 nil)", "111"},
		{"(pair (ref 1) 2)", "1010"}, {"(pair 2 (ref 1))", "1100"}, {"(cons (get x) nil)", "1010"}, {"(cons nil (raise 1))", "1100"},
		{"(pair (ref 1) (ref 1))", "10100"}, {"(pair 1 (app x 2))", "11100"},
		{"(pair (pair 1 2) (cons 3 nil))", "1111111"}, {"(cons (pair 1 (cons 2 nil)) nil)", "1111111"},
		{"(pair (pair 1 (fst 2)) 3)", "110010"}, {"(pair 3 (pair (fst 2) 1))", "110100"}, {"(cons 1 (cons 2 (cons (snd 3) nil)))", "11101000"},
		{"(pair 1 (fun x (raise x)))", "11011"}, {"(fun x (pair 1 (raise x)))", "11001"},
		{"(app x y)", "110"}, {"(let x 1 x)", "110"}, {"(rec f x x f)", "110"}, {"(if 1 2 3)", "1110"},
		{"(add 1 2)", "110"}, {"(sub 1 2)", "110"}, {"(less 1 2)", "110"}, {"(same 1 2)", "110"},
		{"(fst x)", "10"}, {"(snd x)", "10"}, {"(match x 1 h t t)", "1110"}, {"(ref 1)", "10"}, {"(get x)", "10"}, {"(set x 1)", "110"},
		{"(raise 1)", "10"}, {"(try 1 e 2)", "110"},
	} {
		l := programOf(t, c.text)
		if len(l) != len(c.want) {
			t.Fatalf("%s has %d nodes, and %d are written out", c.text, len(l), len(c.want))
		}
		for i := range l {
			if got := impl.IsValue(l, i); got != (c.want[i] == '1') {
				t.Errorf("IsValue %d is %v of %s", i, got, c.text)
			}
		}
		mustHaveValues(t, l)
	}
}

// TestCodes: each code alone, and which one comes first.
func TestCodes(t *testing.T) {
	for _, s := range []string{
		"x", "(fun x y)", "(let x x x)", "(try x x x)", "(rec f x y f)", "(rec f x x x)", "(match h 1 h t h)", "(match nil t h t t)",
		"(match nil 1 h t (pair h (pair t u)))", "(pair (fun x x) x)", "(app (let f (fun x x) f) f)",
		// no type either, with the free name and without it
		"(app 1 y)", "(app (app 1 2) y)", "(pair (fun x (app x x)) x)", "(if nil y nil)", "(let x (app 1 2) y)", "(add x nil)", "(fun x (app x (app x y)))",
		"(pair (app y 1) (app y nil))",
	} {
		l := programOf(t, s)
		mustTell(t, l, nil, impl.TyFree)
		mustInfer(t, l)
		for i := range l {
			for _, m := range wrongTurns(l, i) {
				mustBeBad(t, "free, and not right", m)
			}
		}
	}
	for _, s := range []string{"(app 1 2)", "(fun x (app x x))", "(let r (ref nil) (pair (set r (cons 1 nil)) (set r (cons nil nil))))"} {
		l := programOf(t, s)
		mustTell(t, l, nil, impl.TyNone)
		for i := range l {
			for _, m := range wrongTurns(l, i) {
				mustBeBad(t, "without a type, and not right", m)
			}
		}
	}
}

// TestInferOfAllSmallPrograms: all programs of up to five nodes, with all names of
// two.
func TestInferOfAllSmallPrograms(t *testing.T) {
	told := map[int]int{}
	for _, programs := range programsUpTo(5) {
		for _, l := range programs {
			for number := range 1 << countNames(l) {
				told[mustInfer(t, namedBy(l, 2, number))]++
			}
			mustHaveValues(t, l)
		}
	}
	for _, code := range []int{impl.TyOk, impl.TyFree, impl.TyNone} {
		if told[code] < 3000 {
			t.Errorf("only %d programs have the code %d", told[code], code)
		}
	}
}

// withPart is a program in which the part of another stands in the place of that of
// node i.
func withPart(l []impl.Node, i int, part []impl.Node) []impl.Node {
	var lay func(at int) []impl.Node
	lay = func(at int) []impl.Node {
		n := l[at]
		if at == i {
			return slices.Clone(part)
		}
		var kids [][]impl.Node
		for _, k := range []int{n.A, n.B, n.C}[:shapes[n.Kind-1].kids] {
			kids = append(kids, lay(k))
		}
		out := over(n.Kind, shapes[n.Kind-1].names, kids...)
		last := &out[len(out)-1]
		last.N, last.Name, last.Other = n.N, n.Name, n.Other
		return out
	}
	return lay(len(l) - 1)
}

// usesDiffer asks whether a name has uses at two types.
func usesDiffer(l []impl.Node) bool {
	types := impl.NodeTypes(l)
	scopes := scopesByRule(l)
	first := map[impl.Bind]int{}
	for i, n := range l {
		b := binderByRule(n, scopes[i])
		if k, again := first[b]; again && n.Kind == impl.NVar && types[k] != types[i] {
			return true
		} else if !again {
			first[b] = i
		}
	}
	return false
}

// TestInferOfMixedPrograms: each node of the programs that are written out, with
// parts of the other ones in its place.
func TestInferOfMixedPrograms(t *testing.T) {
	var programs [][]impl.Node
	for _, c := range inferCases {
		programs = append(programs, programOf(t, c.text))
	}
	next := dice(9)
	told, differ := map[int]int{}, 0
	for _, l := range programs {
		for i := range l {
			for range 7 {
				other := programs[next(len(programs))]
				m := withPart(l, i, partByRule(other, next(len(other))))
				code := mustInfer(t, m)
				told[code]++
				if code == impl.TyOk && usesDiffer(m) {
					differ++
				}
				if canon := impl.Canon(m); !slices.Equal(impl.NodeTypes(canon), impl.NodeTypes(m)) {
					t.Fatalf("the types of Canon are %q, and %q of %s", impl.NodeTypes(canon), impl.NodeTypes(m), textOf(m))
				}
			}
		}
	}
	if told[impl.TyOk] < 4000 || told[impl.TyFree] < 4000 || told[impl.TyNone] < 4000 || differ < 1000 {
		t.Errorf("the codes are %v, and %d programs use a name at two types", told, differ)
	}
}

// grownName is a name with a closed type, or one of a function from each type to
// itself.
type grownName struct {
	name string
	of   typeTree
	self bool
}

// grower makes programs that have a type.
type grower struct {
	next func(n int) int
}

func (g grower) kind(room int) typeTree {
	kinds := []int{impl.TyInt, impl.TyInt, impl.TyList, impl.TyPair, impl.TyFun, impl.TyRef}
	switch kind := kinds[g.next(len(kinds))]; {
	case room <= 0 || kind == impl.TyInt:
		return tree(impl.TyInt)
	case kind == impl.TyFun || kind == impl.TyPair:
		return tree(kind, g.kind(room-2), g.kind(room-2))
	default:
		return tree(kind, g.kind(room-1))
	}
}

func nodeOf(kind int, name string) []impl.Node { return []impl.Node{{Kind: kind, Name: name}} }

// bound is a node with these names.
func bound(kind int, name string, other string, kids ...[]impl.Node) []impl.Node {
	out := over(kind, shapes[kind-1].names, kids...)
	out[len(out)-1].Name, out[len(out)-1].Other = name, other
	return out
}

// leaf is a short program of a type; a name of it, where one is seen.
func (g grower) leaf(want typeTree, here []grownName) []impl.Node {
	for k := range here {
		at := here[len(here)-1-k]
		hidden := slices.ContainsFunc(here[len(here)-k:], func(n grownName) bool { return n.name == at.name })
		if !hidden && !at.self && at.of.text() == want.text() && g.next(4) > 0 {
			return nodeOf(impl.NVar, at.name)
		}
	}
	switch want.kind {
	case impl.TyInt:
		return []impl.Node{{Kind: impl.NInt, N: g.next(9)}}
	case impl.TyList:
		return nodeOf(impl.NNil, "")
	case impl.TyFun:
		return bound(impl.NFun, "u", "", g.leaf(want.kids[1], append(slices.Clone(here), grownName{"u", want.kids[0], false})))
	case impl.TyPair:
		return over(impl.NPair, 0, g.leaf(want.kids[0], here), g.leaf(want.kids[1], here))
	}
	return over(impl.NRef, 0, g.leaf(want.kids[0], here))
}

func (g grower) grow(want typeTree, room int, here []grownName) []impl.Node {
	if room <= 0 {
		return g.leaf(want, here)
	}
	number, some := tree(impl.TyInt), g.kind(3)
	name, other := []string{"a", "b", "c"}[g.next(3)], []string{"a", "b", "d"}[g.next(3)]
	with := func(more ...grownName) []grownName { return append(slices.Clone(here), more...) }
	grow := func(want typeTree, more ...grownName) []impl.Node {
		return g.grow(want, (room-1)/2-g.next(2), with(more...))
	}
	more := func(want typeTree, more ...grownName) []impl.Node { return g.grow(want, room-2, with(more...)) }
	switch g.next(16) {
	case 0:
		return bound(impl.NLet, name, "", grow(some), grow(want, grownName{name, some, false}))
	case 1, 2:
		self := bound(impl.NFun, "x", "", nodeOf(impl.NVar, "x"))
		return bound(impl.NLet, name, "", self, more(want, grownName{name, typeTree{}, true}))
	case 3:
		return bound(impl.NRec, name, other, nodeOf(impl.NVar, other), more(want, grownName{name, typeTree{}, true}))
	case 4, 5, 6:
		for k := range here {
			at := here[len(here)-1-k]
			hidden := slices.ContainsFunc(here[len(here)-k:], func(n grownName) bool { return n.name == at.name })
			if !hidden && at.self {
				return over(impl.NApp, 0, nodeOf(impl.NVar, at.name), more(want))
			}
		}
		return over(impl.NApp, 0, grow(tree(impl.TyFun, some, want)), grow(some))
	case 7:
		return over(impl.NFst, 0, over(impl.NPair, 0, grow(want), grow(some)))
	case 8:
		return over(impl.NSnd, 0, grow(tree(impl.TyPair, some, want)))
	case 9:
		return over(impl.NIf, 0, grow(number), grow(want), grow(want))
	case 10:
		list := tree(impl.TyList, some)
		return bound(impl.NMatch, name, other, grow(list), grow(want), grow(want, grownName{name, some, false}, grownName{other, list, false}))
	case 11:
		return over(impl.NGet, 0, grow(tree(impl.TyRef, want)))
	case 12:
		return bound(impl.NTry, name, "", grow(want), grow(want, grownName{name, number, false}))
	case 13:
		f := tree(impl.TyFun, some, want)
		return bound(impl.NRec, name, other, grow(want, grownName{name, f, false}, grownName{other, some, false}), grow(want, grownName{name, f, false}))
	}
	return g.growKind(want, grow)
}

// growKind is a node of the kind that makes what is wanted.
func (g grower) growKind(want typeTree, grow func(want typeTree, more ...grownName) []impl.Node) []impl.Node {
	name := []string{"a", "b", "c"}[g.next(3)]
	switch want.kind {
	case impl.TyInt:
		some := g.kind(2)
		if g.next(2) == 0 {
			return over(impl.NSet, 0, grow(tree(impl.TyRef, some)), grow(some))
		}
		return over(impl.NPrim, 0, grow(want), grow(want))
	case impl.TyList:
		return over(impl.NCons, 0, grow(want.kids[0]), grow(want))
	case impl.TyPair:
		return over(impl.NPair, 0, grow(want.kids[0]), grow(want.kids[1]))
	case impl.TyFun:
		return bound(impl.NFun, name, "", grow(want.kids[1], grownName{name, want.kids[0], false}))
	}
	return over(impl.NRef, 0, grow(want.kids[0]))
}

// TestInferOfGrownPrograms: programs of all forms within one another that have a
// type, and these with a part of another one in the place of one of theirs.
func TestInferOfGrownPrograms(t *testing.T) {
	g := grower{dice(99)}
	told, differ := map[int]int{}, 0
	last := nodeOf(impl.NNil, "")
	for range 10000 {
		l := g.grow(g.kind(3), 4+g.next(20), nil)
		if code := mustInfer(t, l); code != impl.TyOk {
			t.Fatalf("the code is %d of %s", code, textOf(l))
		}
		if usesDiffer(l) {
			differ++
		}
		m := withPart(l, g.next(len(l)), partByRule(last, g.next(len(last))))
		told[mustInfer(t, m)]++
		last = l
	}
	if told[impl.TyOk] < 1000 || told[impl.TyFree] < 1000 || told[impl.TyNone] < 1000 || differ < 150 {
		t.Errorf("the codes are %v, and %d programs use a name at two types", told, differ)
	}
}

// refs is a text with so many NRefs around it.
func refs(times int, within string) string {
	return strings.Repeat("(ref ", times) + within + strings.Repeat(")", times)
}

// big is a program whose type has so many parts.
func big(parts int) string { return refs(parts-1, "1") }

// TestInferAtMaxType: types, of the whole and of what stands within it, of MaxType
// parts and of some less and more. Parts tells how many the greatest one has when a
// program whose type has n of them is put in the place of #.
func TestInferAtMaxType(t *testing.T) {
	for _, c := range []struct {
		text  string
		parts func(n int) int
	}{
		{"#", func(n int) int { return n }},
		{"(ref #)", func(n int) int { return n + 1 }},
		{"(pair # 1)", func(n int) int { return n + 2 }},
		{"(pair nil #)", func(n int) int { return n + 3 }},
		{"(pair # #)", func(n int) int { return 2*n + 1 }},
		{"(cons # nil)", func(n int) int { return n + 1 }},
		{"(fun x #)", func(n int) int { return n + 2 }},
		{"(fun x (if 1 x #))", func(n int) int { return 2*n + 1 }},
		{"(fun x (pair (fun y x) #))", func(n int) int { return n + 6 }},
		{"(rec f x # f)", func(n int) int { return n + 2 }},
		// of a node within, though that of the whole is small
		{"(fst (pair 1 #))", func(n int) int { return n + 2 }},
		{"(snd (pair # 1))", func(n int) int { return n + 2 }},
		{"(app (fun u 1) #)", func(n int) int { return n + 2 }},
		{"(app (fun u #) 1)", func(n int) int { return n + 2 }},
		{"(let u # 1)", func(n int) int { return n }},
		{"(let u (fun x #) 1)", func(n int) int { return n + 2 }},
		{"(let u (fst (pair # 1)) 1)", func(n int) int { return n + 2 }},
		{"(let u (cons # nil) (fun x u))", func(n int) int { return n + 3 }},
		{"(rec f x 1 (let u # 2))", func(n int) int { return n }},
		{"(if (let u # 1) 2 3)", func(n int) int { return n }},
		{"(if 1 2 (let u # 3))", func(n int) int { return n }},
		{"(add (let u # 1) 2)", func(n int) int { return n }},
		{"(set (ref #) #)", func(n int) int { return n + 1 }},
		{"(get (ref (let u # 1)))", func(n int) int { return n }},
		{"(raise (let u # 1))", func(n int) int { return n }},
		{"(match (cons # nil) 1 h t 2)", func(n int) int { return n + 1 }},
		{"(match nil 1 h t (let u # 2))", func(n int) int { return n }},
		{"(try (let u # 1) e 2)", func(n int) int { return n }},
		{"(try 1 e (let u # 2))", func(n int) int { return n }},
		{"(fun y (let u # y))", func(n int) int { return n }},
		// only once something further on made two types one
		{"(fun x (let u (pair x x) (let v (cons x (cons # nil)) 1)))", func(n int) int { return 2*n + 1 }},
		{"(fun x (let u (pair x x) (if 1 u (pair # (fst u)))))", func(n int) int { return 3*n + 2 }},
		{"(let r (ref nil) (let u (pair r r) (set r (cons # nil))))", func(n int) int { return 2*(n+2) + 1 }},
		{"(fun x (let g (fun u (pair u (pair x x))) (let v (cons x (cons # nil)) 1)))", func(n int) int { return 2*n + 5 }},
		// of one use of a let's name
		{"(let f (fun x x) (let u (app f #) 1))", func(n int) int { return 2*n + 1 }},
		{"(let f (fun x (pair x x)) (fst (pair 1 (app f #))))", func(n int) int { return 3*n + 2 }},
		{"(rec f x (pair x x) (fst (pair 1 (app f #))))", func(n int) int { return 3*n + 2 }},
		// what stands within A is as it is in A, however great it would be for the use
		{"(let f (fun x (fst (pair 1 (pair x (pair x x))))) (app f #))", func(n int) int { return max(n+2, 8) }},
		{"(rec f x (fst (pair 1 (pair x (pair x x)))) (app f #))", func(n int) int { return max(n+2, 8) }},
		{"(app (fun x (fst (pair 1 (pair x (pair x x))))) #)", func(n int) int { return 3*n + 4 }},
		{"(let f (app (fun i i) (fun x (fst (pair 1 (pair x (pair x x)))))) (app f #))", func(n int) int { return max(3*n+4, 2*(n+2)+1) }},
		// of a name that a node binds alone
		{"(rec f x (let u (cons x (cons # nil)) #) 1)", func(n int) int { return 2*n + 1 }},
		{"(rec f x (let u (cons x (cons # nil)) (ref #)) 1)", func(n int) int { return 2*n + 2 }},
		{"(rec f x (let u (cons x (cons # nil)) (ref #)) (fun y y))", func(n int) int { return 2*n + 2 }},
		{"(let v (rec f x (let u (cons x (cons # nil)) (ref #)) 1) nil)", func(n int) int { return 2*n + 2 }},
		{"(rec f f (let u (cons f (cons # nil)) (ref #)) 1)", func(n int) int { return 2*n + 2 }},
	} {
		typed, none := 0, 0
		for n := 1; n <= 62; n++ {
			text := strings.ReplaceAll(c.text, "#", big(n))
			if impl.Parses(text) {
				want := impl.TyOk
				if c.parts(n) > 60 {
					want = impl.TyNone
				}
				l := programOf(t, text)
				if got := mustInfer(t, l); got != want {
					t.Fatalf("the code is %d, want %d of %s with a type of %d parts", got, want, c.text, n)
				}
				typed += min(max(61-c.parts(n), 0), 1)
				none += min(max(c.parts(n)-60, 0), 1)
			}
		}
		if typed == 0 || none == 0 {
			t.Errorf("%d programs with a type and %d without came of %s", typed, none, c.text)
		}
	}
	if got, code := impl.Infer(programOf(t, big(60))); got != big60 || code != impl.TyOk {
		t.Errorf("Infer is %q, %d", got, code)
	}
}

var big60 = strings.Repeat("(ref ", 59) + "int" + strings.Repeat(")", 59)

// levels is a text of so many levels around an innermost one: # stands for the next
// one, a and b for the names of a level and of the one behind it.
func levels(most int, level string, inner string) string {
	name := func(k int) string { return "v" + string(rune('a'+k/26)) + string(rune('a'+k%26)) }
	text := "#"
	for k := range most {
		named := strings.NewReplacer("a.", name(k), "b.", name(k+1)).Replace(level)
		text = strings.Replace(text, "#", named, 1)
	}
	return strings.Replace(text, "#", strings.ReplaceAll(inner, "b.", name(most)), 1)
}

// TestInferOfTypesThatGrow: types that each level makes twice or more as great, up
// to MaxNodes nodes, are told in short time.
func TestInferOfTypesThatGrow(t *testing.T) {
	for _, c := range []struct {
		around, level, inner string
		typed                int // so many levels have a type
	}{
		{"#", "(app (fun x (pair x x)) #)", "1", 4},
		{"#", "(let a. (fun x (pair x x)) (app a. #))", "1", 4},
		{"(let va (fun x (pair x x)) #)", "(app va #)", "1", 4},
		{"(rec va x (pair x x) #)", "(app va #)", "1", 4},
		{"(let vaa (pair nil nil) #)", "(let b. (pair a. a.) #)", "1", 3},
		{"(let vaa 1 #)", "(let b. (pair a. a.) #)", "b.", 4},
		{"(let vaa (fun x x) #)", "(let b. (fun x (pair (app a. x) (app a. x))) #)", "1", 4},
		{"(let vaa (fun x (pair x x)) #)", "(let b. (fun x (app a. (app a. x))) #)", "1", 2},
		{"(let vaa (app (fun x x) nil) #)", "(let b. (pair a. a.) #)", "1", 4},
		// from the outermost name on, and from the innermost one back
		{"(fun vaa #)", "(fun b. (let u (cons a. (cons (pair b. b.) nil)) #))", "1", 3},
		{"(fun vaa #)", "(fun b. (let u (cons b. (cons (pair a. a.) nil)) #))", "1", 3},
		{"(fun vaa #)", "(fun b. (let u (cons a. (cons (pair (pair b. b.) (pair b. b.)) nil)) #))", "1", 2},
		{"(let vaa (ref nil) #)", "(let b. (ref nil) (let u (set a. (cons (pair b. b.) nil)) #))", "1", 3},
	} {
		typed := -1
		for most := 1; ; most++ {
			l, code, _ := impl.Parse(strings.Replace(c.around, "#", levels(most, c.level, c.inner), 1))
			if code != impl.PaOk {
				if most < 10 {
					t.Fatalf("only %d levels of %s", most-1, c.level)
				}
				break
			}
			start := time.Now()
			if impl.Typed(l) {
				typed = most
			}
			if took := time.Since(start); took > 5*time.Second {
				t.Fatalf("%d levels of %s took %v", most, c.level, took)
			}
			if most <= 5 {
				mustInfer(t, l)
			}
		}
		if typed != c.typed {
			t.Errorf("%d levels of %s within %s have a type, want %d", typed, c.level, c.around, c.typed)
		}
	}
}

// longPrograms are programs of just that many nodes, from 10 on, whose type is
// anything: each form around itself, and NRaise around it all.
func longPrograms(nodes int) [][]impl.Node {
	number, none, a := []impl.Node{{Kind: impl.NInt, N: 3}}, nodeOf(impl.NNil, ""), nodeOf(impl.NVar, "a")
	self := bound(impl.NFun, "a", "", a)
	var out [][]impl.Node
	for _, level := range []func(l []impl.Node) []impl.Node{
		func(l []impl.Node) []impl.Node { return over(impl.NRaise, 0, l) },
		func(l []impl.Node) []impl.Node { return over(impl.NPrim, 0, l, number) },
		func(l []impl.Node) []impl.Node { return over(impl.NPrim, 0, number, l) },
		func(l []impl.Node) []impl.Node { return over(impl.NIf, 0, l, number, number) },
		func(l []impl.Node) []impl.Node { return over(impl.NIf, 0, number, number, l) },
		func(l []impl.Node) []impl.Node { return over(impl.NApp, 0, self, l) },
		func(l []impl.Node) []impl.Node { return over(impl.NFst, 0, over(impl.NPair, 0, l, none)) },
		func(l []impl.Node) []impl.Node { return over(impl.NSnd, 0, over(impl.NPair, 0, none, l)) },
		func(l []impl.Node) []impl.Node { return over(impl.NGet, 0, over(impl.NRef, 0, l)) },
		func(l []impl.Node) []impl.Node { return over(impl.NSet, 0, over(impl.NRef, 0, number), l) },
		func(l []impl.Node) []impl.Node { return bound(impl.NLet, "a", "", l, a) },
		func(l []impl.Node) []impl.Node { return bound(impl.NLet, "a", "", number, l) },
		func(l []impl.Node) []impl.Node { return bound(impl.NLet, "f", "", self, l) },
		func(l []impl.Node) []impl.Node {
			return bound(impl.NLet, "f", "", self, over(impl.NApp, 0, nodeOf(impl.NVar, "f"), l))
		},
		func(l []impl.Node) []impl.Node { return bound(impl.NRec, "f", "a", a, l) },
		func(l []impl.Node) []impl.Node { return bound(impl.NRec, "f", "a", l, number) },
		func(l []impl.Node) []impl.Node { return bound(impl.NTry, "a", "", l, a) },
		func(l []impl.Node) []impl.Node { return bound(impl.NTry, "a", "", number, l) },
		func(l []impl.Node) []impl.Node { return bound(impl.NMatch, "a", "b", none, l, a) },
		func(l []impl.Node) []impl.Node { return bound(impl.NMatch, "a", "b", none, number, l) },
		func(l []impl.Node) []impl.Node {
			return bound(impl.NMatch, "a", "b", over(impl.NCons, 0, l, none), number, a)
		},
	} {
		l := number
		for next := level(l); len(next) < nodes; next = level(l) {
			l = next
		}
		for len(l) < nodes {
			l = over(impl.NRaise, 0, l)
		}
		out = append(out, l)
	}
	return out
}

// TestInferAtMaxNodes: programs of MaxNodes nodes, and of more.
func TestInferAtMaxNodes(t *testing.T) {
	for _, nodes := range []int{10, 11, 149, impl.MaxNodes} {
		for _, l := range longPrograms(nodes) {
			if got, code := impl.Infer(l); len(l) != nodes || got != "'0" || code != impl.TyOk || len(impl.NodeTypes(l)) != nodes {
				t.Fatalf("Infer is %q, %d of %d nodes: %s", got, code, len(l), textOf(l))
			}
			mustInfer(t, l)
			mustHaveValues(t, l)
		}
		for _, l := range greatPrograms(nodes) {
			mustInfer(t, l)
			mustHaveValues(t, l)
		}
		for _, l := range deepBinders(nodes - 1) {
			closed := over(impl.NFun, 1, l)
			if nodes < 20 {
				// of more, the copies would be too many
				mustInfer(t, closed)
			}
			if got, code := impl.Infer(closed); len(closed) != nodes || (code == impl.TyOk) != (got != "") || code != impl.TyOk && code != impl.TyNone {
				t.Fatalf("Infer is %q, %d of %d nodes: %s", got, code, len(closed), textOf(closed))
			}
			mustHaveValues(t, closed)
		}
	}
	for _, nodes := range []int{impl.MaxNodes + 1, impl.MaxNodes + 2, 400} {
		for _, l := range slices.Concat(longPrograms(nodes), greatPrograms(nodes), deepBinders(nodes)) {
			mustBeBad(t, "too many nodes", l)
		}
	}
	mustBeBad(t, "a very long list", slices.Repeat([]impl.Node{{Kind: impl.NInt, N: 1}}, 20000))
}

// TestInferOfOneWrongField: each field of each node in turn is not right, in a
// program that has a type otherwise.
func TestInferOfOneWrongField(t *testing.T) {
	for k, c := range inferCases {
		if k%9 != 0 {
			continue
		}
		l := programOf(t, c.text)
		for i := range l {
			for _, m := range wrongTurns(l, i) {
				mustBeBad(t, "one wrong field", m)
			}
		}
	}
	for _, s := range shapes {
		l := oneOfEach(s.kind)
		mustInfer(t, l)
		for i := range l {
			for _, m := range wrongTurns(l, i) {
				mustBeBad(t, "one wrong field", m)
			}
		}
	}
}

func TestInferOfWrongLists(t *testing.T) {
	for what, l := range wrongLists() {
		mustBeBad(t, what, l)
	}
}

// askInfer calls all functions of chapter 9, and writes into what they answer.
func askInfer(l []impl.Node) {
	for i := -1; i <= min(len(l), 200); i++ {
		impl.IsValue(l, i)
	}
	impl.Infer(l)
	impl.Typed(l)
	types := impl.NodeTypes(l)
	types = types[:cap(types)]
	for i := range types {
		types[i] = "gone"
	}
}

// TestInferLeavesNodesAsTheyAre: neither a list nor the room behind it is written
// into.
func TestInferLeavesNodesAsTheyAre(t *testing.T) {
	programs := append(longPrograms(60), nil, []impl.Node{{Kind: impl.NFun, A: 3, Name: "x"}}, longPrograms(impl.MaxNodes)[5], longPrograms(impl.MaxNodes + 1)[5])
	for _, c := range inferCases {
		l := programOf(t, c.text)
		programs = append(programs, l, turned(l, len(l)-1, func(n *impl.Node) { n.N = -1 }))
	}
	for _, l := range programs {
		mustLeaveAlone(t, l, askInfer)
	}
}

// TestInferKeepsNothing: a program is told of as ever behind others, and behind
// answers that were written into.
func TestInferKeepsNothing(t *testing.T) {
	others := [][]impl.Node{nil, {{}}, oneOfEach(impl.NMatch), programOf(t, "(fun x (app x x))"), programOf(t, "(let r (ref nil) (set r (cons 1 nil)))"), longPrograms(150)[13], longPrograms(151)[6]}
	for k, c := range inferCases {
		l := programOf(t, c.text)
		askInfer(l)
		mustInfer(t, l)
		askInfer(others[k%len(others)])
		mustInfer(t, l)
		texts := impl.NodeTypes(l)
		for i := range texts {
			texts[i] = "gone"
		}
		mustInfer(t, l)
	}
}

// TestTypesOfCanon: other names change no type, also where the program has none.
func TestTypesOfCanon(t *testing.T) {
	for _, l := range longPrograms(impl.MaxNodes) {
		texts, code := typesByRule(l)
		mustTell(t, impl.Canon(l), texts, code)
	}
	for _, c := range inferCases {
		l := programOf(t, c.text)
		texts, code := typesByRule(l)
		mustTell(t, impl.Canon(l), texts, code)
		for _, b := range impl.Sites(l) {
			for _, name := range []string{"w", "x", "f"} {
				if m, ok := impl.RenameOne(l, b, name); ok {
					mustTell(t, m, texts, code)
				}
			}
		}
	}
}

// TestInferOfAnyNodes: no list makes a function of chapter 9 panic, and each tells
// of it what it should, right or not.
func TestInferOfAnyNodes(t *testing.T) {
	next := dice(5)
	told := map[int]int{}
	for range 200000 {
		l := anyNodes(next, 8, []string{"x", "y", "x", "", "y", "abcdefghi", "fun", "\xff"})
		if !rightByRule(l) {
			told[impl.TyBad]++
			mustBeBad(t, "any nodes", l)
			continue
		}
		told[mustInfer(t, l)]++
		mustHaveValues(t, l)
	}
	for code := range 4 {
		if told[code] < 50 {
			t.Errorf("only %d lists have the code %d", told[code], code)
		}
	}
}
