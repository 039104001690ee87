package tests

import (
	"fmt"
	"math"
	"slices"
	"strings"
	"testing"
	"unsafe"

	"loop.example/g01292/impl"
)

var keys = []string{"fun", "app", "let", "rec", "if", "add", "sub", "less", "same", "pair", "fst", "snd", "nil", "cons", "match",
	"ref", "get", "set", "raise", "try"}

// shapes says of each kind how many kids and names it has.
var shapes = []struct{ kind, kids, names int }{
	{impl.NVar, 0, 1}, {impl.NInt, 0, 0}, {impl.NFun, 1, 1}, {impl.NApp, 2, 0}, {impl.NLet, 2, 1}, {impl.NRec, 2, 2}, {impl.NIf, 3, 0},
	{impl.NPrim, 2, 0}, {impl.NPair, 2, 0}, {impl.NFst, 1, 0}, {impl.NSnd, 1, 0}, {impl.NNil, 0, 0}, {impl.NCons, 2, 0},
	{impl.NMatch, 3, 2}, {impl.NRef, 1, 0}, {impl.NGet, 1, 0}, {impl.NSet, 2, 0}, {impl.NRaise, 1, 0}, {impl.NTry, 2, 1},
}

var strayKinds = []int{-1, 0, 20, 21, 150, math.MinInt, math.MaxInt, impl.NVar - 1<<32, impl.NIf + 1<<32}

// over is a node of a kind above these programs: theirs, one behind the other,
// and it with its kids' numbers.
func over(kind int, names int, parts ...[]impl.Node) []impl.Node {
	var out []impl.Node
	var kids [3]int
	for k, p := range parts {
		less := len(out)
		for _, n := range p {
			a := shapes[n.Kind-1].kids
			n.A += less * min(a, 1)
			n.B += less * min(max(a-1, 0), 1)
			n.C += less * max(a-2, 0)
			out = append(out, n)
		}
		kids[k] = len(out) - 1
	}
	n := impl.Node{Kind: kind, A: kids[0], B: kids[1], C: kids[2]}
	if names >= 1 {
		n.Name = "x"
	}
	if names >= 2 {
		n.Other = "y"
	}
	return append(out, n)
}

// programsUpTo makes all programs of each number of nodes, from 1 to most.
func programsUpTo(most int) [][][]impl.Node {
	all := make([][][]impl.Node, most+1)
	for size := 1; size <= most; size++ {
		for _, s := range shapes {
			for _, parts := range splits(all, size-1, s.kids) {
				all[size] = append(all[size], over(s.kind, s.names, parts...))
			}
		}
	}
	return all
}

// splits makes all rows of that many programs with that many nodes in all.
func splits(all [][][]impl.Node, nodes int, programs int) [][][]impl.Node {
	if programs == 0 {
		if nodes == 0 {
			return [][][]impl.Node{nil}
		}
		return nil
	}
	var out [][][]impl.Node
	for first := 1; first <= nodes; first++ {
		rest := splits(all, nodes-first, programs-1)
		for _, p := range all[first] {
			for _, r := range rest {
				out = append(out, append([][]impl.Node{p}, r...))
			}
		}
	}
	return out
}

// oneOfEach is a small right program with a node of that kind at its end.
func oneOfEach(kind int) []impl.Node {
	s := shapes[kind-1]
	parts := [][]impl.Node{{{Kind: impl.NInt, N: 7}}, {{Kind: impl.NVar, Name: "z"}}, {{Kind: impl.NNil}}}
	return over(kind, s.names, parts[:s.kids]...)
}

// greatPrograms are right programs of just that many nodes, from 4 on, deep to
// either side, or wide.
func greatPrograms(nodes int) [][]impl.Node {
	leafNode := []impl.Node{{Kind: impl.NInt, N: 1}}
	chain, left, right, middle := leafNode, leafNode, leafNode, leafNode
	for len(chain) < nodes {
		chain = over(impl.NFst, 0, chain)
	}
	for len(left)+2 <= nodes {
		left = over(impl.NPair, 0, left, leafNode)
		right = over(impl.NLet, 1, leafNode, right)
	}
	for len(middle)+3 <= nodes {
		middle = over(impl.NMatch, 2, leafNode, middle, leafNode)
	}
	wide := over(impl.NIf, 0, leafNode, leafNode, leafNode)
	for 2*len(wide)+1 <= nodes {
		wide = over(impl.NApp, 0, wide, wide)
	}
	out := [][]impl.Node{chain, left, right, middle, wide}
	for i := range out {
		for len(out[i]) < nodes {
			out[i] = over(impl.NRaise, 0, out[i])
		}
	}
	return out
}

func isNameByRule(s string) bool {
	if len(s) < 1 || len(s) > 8 || slices.Contains(keys, s) {
		return false
	}
	return strings.Trim(s, "abcdefghijklmnopqrstuvwxyz") == ""
}

func fieldsRightByRule(n impl.Node) bool {
	if n.Kind < 1 || n.Kind > 19 {
		return false
	}
	s := shapes[n.Kind-1]
	low, high := 0, 0
	switch n.Kind {
	case impl.NInt:
		high = 65535
	case impl.NPrim:
		high = 3
	}
	return n.N >= low && n.N <= high &&
		(s.names >= 1 && isNameByRule(n.Name) || s.names < 1 && n.Name == "") &&
		(s.names >= 2 && isNameByRule(n.Other) || s.names < 2 && n.Other == "") &&
		(s.kids >= 1 || n.A == 0) && (s.kids >= 2 || n.B == 0) && (s.kids >= 3 || n.C == 0)
}

// startByRule walks down from a node: it tells where its part begins, -2 where
// a node under it is not right.
func startByRule(l []impl.Node, i int) int {
	if i < 0 || i >= len(l) || !fieldsRightByRule(l[i]) {
		return -2
	}
	start := i
	given := []int{l[i].A, l[i].B, l[i].C}
	for k := shapes[l[i].Kind-1].kids - 1; k >= 0; k-- {
		if given[k] != start-1 {
			return -2
		}
		if start = startByRule(l, start-1); start == -2 {
			return -2
		}
	}
	return start
}

func rightByRule(l []impl.Node) bool {
	return len(l) >= 1 && len(l) <= 150 && startByRule(l, len(l)-1) == 0
}

func partByRule(l []impl.Node, i int) []impl.Node {
	start := startByRule(l, i)
	out := slices.Clone(l[start : i+1])
	for j := range out {
		s := shapes[out[j].Kind-1]
		if s.kids >= 1 {
			out[j].A -= start
		}
		if s.kids >= 2 {
			out[j].B -= start
		}
		if s.kids >= 3 {
			out[j].C -= start
		}
	}
	return out
}

// tell is for faults: what was asked, short.
func tell(l []impl.Node) string {
	if len(l) > 6 {
		return fmt.Sprintf("%d nodes that end with %+v", len(l), l[len(l)-1])
	}
	return fmt.Sprintf("%+v", l)
}

// mustBeRight holds all functions of the chapter, and P3, against a program.
func mustBeRight(t *testing.T, l []impl.Node) {
	t.Helper()
	if !impl.NodesOk(l) {
		t.Fatalf("NodesOk is false of %s", tell(l))
	}
	parents := make([]int, len(l))
	for i, n := range l {
		for _, k := range impl.Kids(n) {
			if k < 0 || k >= i {
				t.Fatalf("node %d has the kid %d in %s", i, k, tell(l))
			}
			parents[k]++
		}
		start, part := impl.StartOf(l, i), impl.Part(l, i)
		if start != startByRule(l, i) {
			t.Fatalf("StartOf %d is %d, want %d in %s", i, start, startByRule(l, i), tell(l))
		}
		if !impl.NodesOk(part) || len(part) != i-start+1 || !slices.Equal(part, partByRule(l, i)) {
			t.Fatalf("Part %d is %s, want %s of %s", i, tell(part), tell(partByRule(l, i)), tell(l))
		}
	}
	for i, p := range parents[:len(l)-1] {
		if p != 1 {
			t.Fatalf("node %d is a kid of %d nodes in %s", i, p, tell(l))
		}
	}
	last := len(l) - 1
	if parents[last] != 0 || impl.StartOf(l, last) != 0 || !impl.SameNodes(impl.Part(l, last), l) {
		t.Fatalf("the last node of %s", tell(l))
	}
	noSuchNode(t, l)
}

func noSuchNode(t *testing.T, l []impl.Node) {
	t.Helper()
	for _, i := range []int{-1, len(l), len(l) + 1, -len(l), math.MinInt, math.MaxInt} {
		if i >= 0 && i < len(l) {
			continue
		}
		if s, p := impl.StartOf(l, i), impl.Part(l, i); s != -1 || len(p) != 0 {
			t.Fatalf("of node %d StartOf is %d and Part %s in %s", i, s, tell(p), tell(l))
		}
	}
}

func mustBeWrong(t *testing.T, what string, l []impl.Node) {
	t.Helper()
	if impl.NodesOk(l) {
		t.Fatalf("%s: NodesOk is true of %s", what, tell(l))
	}
	for i := range l {
		if s, p := impl.StartOf(l, i), impl.Part(l, i); s != -1 || len(p) != 0 {
			t.Fatalf("%s: of node %d StartOf is %d and Part %s in %s", what, i, s, tell(p), tell(l))
		}
	}
	noSuchNode(t, l)
}

// turned is the program with one node changed.
func turned(l []impl.Node, i int, turn func(n *impl.Node)) []impl.Node {
	out := slices.Clone(l)
	turn(&out[i])
	return out
}

func TestConstantsOfNodes(t *testing.T) {
	got := []int{impl.NVar, impl.NInt, impl.NFun, impl.NApp, impl.NLet, impl.NRec, impl.NIf, impl.NPrim, impl.NPair, impl.NFst,
		impl.NSnd, impl.NNil, impl.NCons, impl.NMatch, impl.NRef, impl.NGet, impl.NSet, impl.NRaise, impl.NTry}
	for i, n := range got {
		if n != i+1 {
			t.Errorf("the constant of kind %d is %d", i+1, n)
		}
	}
	if impl.MaxNodes != 150 || impl.OpAdd != 0 || impl.OpSub != 1 || impl.OpLess != 2 || impl.OpSame != 3 {
		t.Error("a constant of chapter 3 is not as the document has it")
	}
}

func TestIsKey(t *testing.T) {
	for _, s := range keys {
		if !impl.IsKey(s) {
			t.Errorf("IsKey(%q) is false", s)
		}
		for _, near := range []string{s + "s", "x" + s, s + " ", " " + s, s + "\x00", s + "\n", "(" + s, strings.ToUpper(s), strings.ToUpper(s[:1]) + s[1:],
			s[:len(s)-1], s[1:], s + s} {
			if impl.IsKey(near) {
				t.Errorf("IsKey(%q) is true", near)
			}
		}
	}
	for _, s := range []string{"", "x", "zq", "var", "int", "prim", "then", "else", "lambda", "true", "false", "funs", "iff", "matches", "abcdefgh",
		"abcdefghi", "1", "fun1", "é", "\xff", "\x00", " ", "(", "fun app", "fun,app", strings.Repeat("a", 5000), strings.Join(keys, " ")} {
		if impl.IsKey(s) {
			t.Errorf("IsKey(%q) is true", s)
		}
	}
	found := 0
	for a := 'a'; a <= 'z'; a++ {
		for b := 'a'; b <= 'z'; b++ {
			for _, c := range "\x00abcdefghijklmnopqrstuvwxyz" {
				if impl.IsKey(strings.Trim(string(a)+string(b)+string(c), "\x00")) {
					found++
				}
			}
		}
	}
	if found != 14 { // if, and thirteen keys of three letters
		t.Errorf("IsKey takes %d words of two or three letters", found)
	}
}

func TestArity(t *testing.T) {
	for _, s := range shapes {
		if got := impl.Arity(s.kind); got != s.kids {
			t.Errorf("Arity(%d) = %d, want %d", s.kind, got, s.kids)
		}
	}
	for _, kind := range strayKinds {
		if got := impl.Arity(kind); got != 0 {
			t.Errorf("Arity(%d) = %d, want 0", kind, got)
		}
	}
	for kind := 20; kind < 2000; kind++ {
		if impl.Arity(kind) != 0 || impl.Arity(-kind) != 0 {
			t.Errorf("Arity of %d or below 0 is not 0", kind)
		}
	}
}

func TestKids(t *testing.T) {
	for _, given := range [][]int{{5, 6, 7}, {0, 0, 0}, {7, 7, 7}, {-1, -2, -3}, {math.MaxInt, math.MinInt, 0}} {
		for _, s := range shapes {
			n := impl.Node{Kind: s.kind, A: given[0], B: given[1], C: given[2], N: 9, Name: "fun", Other: "no name"}
			if got := impl.Kids(n); !slices.Equal(got, given[:s.kids]) {
				t.Errorf("Kids(%+v) = %v, want %v", n, got, given[:s.kids])
			}
		}
		for _, kind := range strayKinds {
			n := impl.Node{Kind: kind, A: given[0], B: given[1], C: given[2]}
			if got := impl.Kids(n); len(got) != 0 {
				t.Errorf("Kids(%+v) = %v, want nothing", n, got)
			}
		}
	}
	if got := impl.Kids(impl.Node{}); len(got) != 0 {
		t.Errorf("Kids of the zero node is %v", got)
	}
}

// TestAllSmallPrograms: P3 of all programs of up to five nodes, by kind.
func TestAllSmallPrograms(t *testing.T) {
	all := programsUpTo(5)
	for size, want := range []int{0, 3, 18, 180, 1998, 24192} {
		if len(all[size]) != want {
			t.Fatalf("there are %d programs of %d nodes, want %d", len(all[size]), size, want)
		}
		for _, l := range all[size] {
			mustBeRight(t, l)
		}
	}
}

func TestGreatPrograms(t *testing.T) {
	for _, nodes := range []int{4, 10, 99, impl.MaxNodes - 1, impl.MaxNodes} {
		for _, l := range greatPrograms(nodes) {
			if len(l) != nodes {
				t.Fatalf("a program of %d nodes has %d", nodes, len(l))
			}
			mustBeRight(t, l)
		}
	}
	for _, nodes := range []int{impl.MaxNodes + 1, impl.MaxNodes + 2, 2*impl.MaxNodes + 1, 1000} {
		for _, l := range greatPrograms(nodes) {
			mustBeWrong(t, "too many nodes", l)
		}
	}
	long := slices.Repeat([]impl.Node{{Kind: impl.NNil}}, 100000)
	if impl.NodesOk(long) || impl.StartOf(long, 0) != -1 || len(impl.Part(long, 99999)) != 0 {
		t.Error("a very long list")
	}
}

func TestPartsOfParts(t *testing.T) {
	for _, l := range greatPrograms(60) {
		for i := range l {
			part, start := impl.Part(l, i), impl.StartOf(l, i)
			for j := range part {
				if !impl.SameNodes(impl.Part(part, j), impl.Part(l, start+j)) || impl.StartOf(part, j) != impl.StartOf(l, start+j)-start {
					t.Fatalf("Part %d of Part %d of %s", j, i, tell(l))
				}
			}
		}
	}
}

func TestPartByHand(t *testing.T) {
	// (match (cons 1 nil) x h t (app f (if h 2 3)))
	l := []impl.Node{{Kind: impl.NInt, N: 1}, {Kind: impl.NNil}, {Kind: impl.NCons, A: 0, B: 1}, {Kind: impl.NVar, Name: "x"},
		{Kind: impl.NVar, Name: "f"}, {Kind: impl.NVar, Name: "h"}, {Kind: impl.NInt, N: 2}, {Kind: impl.NInt, N: 3},
		{Kind: impl.NIf, A: 5, B: 6, C: 7}, {Kind: impl.NApp, A: 4, B: 8}, {Kind: impl.NMatch, A: 2, B: 3, C: 9, Name: "h", Other: "t"}}
	mustBeRight(t, l)
	for i, want := range []int{0, 1, 0, 3, 4, 5, 6, 7, 5, 4, 0} {
		if got := impl.StartOf(l, i); got != want {
			t.Errorf("StartOf %d is %d, want %d", i, got, want)
		}
	}
	want := []impl.Node{{Kind: impl.NVar, Name: "f"}, {Kind: impl.NVar, Name: "h"}, {Kind: impl.NInt, N: 2}, {Kind: impl.NInt, N: 3},
		{Kind: impl.NIf, A: 1, B: 2, C: 3}, {Kind: impl.NApp, A: 0, B: 4}}
	if got := impl.Part(l, 9); !slices.Equal(got, want) {
		t.Errorf("Part 9 is %v, want %v", got, want)
	}
	if got := impl.Part(l, 8); !slices.Equal(got, []impl.Node{want[1], want[2], want[3], {Kind: impl.NIf, A: 0, B: 1, C: 2}}) {
		t.Errorf("Part 8 is %v", got)
	}
	if got := impl.Part(l, 2); !slices.Equal(got, l[:3]) {
		t.Errorf("Part 2 is %v", got)
	}
}

func TestNoNodes(t *testing.T) {
	for _, l := range [][]impl.Node{nil, {}, make([]impl.Node, 0, 5)} {
		mustBeWrong(t, "no nodes", l)
		if impl.StartOf(l, 0) != -1 || len(impl.Part(l, 0)) != 0 {
			t.Error("node 0 of no nodes")
		}
	}
	mustBeWrong(t, "the zero node", []impl.Node{{}})
}

func TestNumbersOfNodes(t *testing.T) {
	for _, s := range shapes {
		l := oneOfEach(s.kind)
		for _, n := range []int{0, 1, 2, 3, 4, 5, 255, 256, 65534, 65535, 65536, 65537, -1, -65536, 1 << 32, math.MaxInt, math.MinInt} {
			right := n == 0 || s.kind == impl.NInt && n >= 0 && n <= 65535 || s.kind == impl.NPrim && n >= impl.OpAdd && n <= impl.OpSame
			m := turned(l, len(l)-1, func(x *impl.Node) { x.N = n })
			if right {
				mustBeRight(t, m)
			} else {
				mustBeWrong(t, "N", m)
			}
		}
	}
}

func TestKindsOfNodes(t *testing.T) {
	for _, s := range shapes {
		l := oneOfEach(s.kind)
		mustBeRight(t, l)
		for _, kind := range strayKinds {
			mustBeWrong(t, "Kind", turned(l, len(l)-1, func(x *impl.Node) { x.Kind = kind }))
			mustBeWrong(t, "Kind of the first", turned(l, 0, func(x *impl.Node) { x.Kind = kind }))
		}
		for _, other := range shapes {
			m := turned(l, len(l)-1, func(x *impl.Node) { x.Kind = other.kind })
			if other.kids == s.kids && other.names == s.names {
				mustBeRight(t, m)
			} else {
				mustBeWrong(t, "the kind of another shape", m)
			}
		}
	}
	for _, kind := range strayKinds {
		mustBeWrong(t, "Kind alone", []impl.Node{{Kind: kind}})
		mustBeWrong(t, "Kind with a name", []impl.Node{{Kind: kind, Name: "x"}})
	}
}

func TestNamesOfNodes(t *testing.T) {
	good := []string{"a", "z", "x", "y", "zq", "funs", "var", "abcdefg", "abcdefgh", "zzzzzzzz"}
	bad := append([]string{"abcdefghi", strings.Repeat("a", 5000), "A", "aB", "a1", "1", "1a", " ", "a ", " a", "a b", "a\n", "(", "a)", "#", "-", "_", "'",
		"é", "aé", "\xff", "\x00", "a\x00", "FUN", "Fun"}, keys...)
	for _, s := range shapes {
		l := oneOfEach(s.kind)
		last := len(l) - 1
		for _, name := range append(good, bad...) {
			isGood := slices.Contains(good, name)
			m := turned(l, last, func(x *impl.Node) { x.Name = name })
			if isGood && s.names >= 1 {
				mustBeRight(t, m)
			} else {
				mustBeWrong(t, "Name", m)
			}
			m = turned(l, last, func(x *impl.Node) { x.Other = name })
			if isGood && s.names >= 2 {
				mustBeRight(t, m)
			} else {
				mustBeWrong(t, "Other", m)
			}
		}
		if s.names >= 1 {
			mustBeWrong(t, "no Name", turned(l, last, func(x *impl.Node) { x.Name = "" }))
		}
		if s.names >= 2 {
			mustBeWrong(t, "no Other", turned(l, last, func(x *impl.Node) { x.Other = "" }))
			mustBeRight(t, turned(l, last, func(x *impl.Node) { x.Other = x.Name }))
		}
	}
}

func TestKidsThatAreNotJustAhead(t *testing.T) {
	turns := []func(n *impl.Node) *int{func(n *impl.Node) *int { return &n.A }, func(n *impl.Node) *int { return &n.B },
		func(n *impl.Node) *int { return &n.C }}
	far := []int{-150, 151, 1 << 32, -1 << 32, math.MaxInt, math.MinInt}
	programs := greatPrograms(13)
	for _, s := range shapes {
		l := oneOfEach(s.kind)
		programs = append(programs, l, over(impl.NApp, 0, l, l), over(impl.NIf, 0, l, l, l), over(impl.NRec, 2, over(impl.NRef, 0, l), l))
	}
	for _, l := range programs {
		mustBeRight(t, l)
		for i := range l {
			for f, field := range turns {
				n := l[i]
				was := *field(&n)
				for k := -2; k <= len(l)+1; k++ {
					if k != was {
						mustBeWrong(t, fmt.Sprintf("kid %d of node %d is %d", f, i, k), turned(l, i, func(x *impl.Node) { *field(x) = k }))
					}
				}
				for _, k := range far {
					mustBeWrong(t, fmt.Sprintf("kid %d of node %d is %d", f, i, k), turned(l, i, func(x *impl.Node) { *field(x) = k }))
				}
			}
		}
	}
}

func TestWrongByHand(t *testing.T) {
	one, name := impl.Node{Kind: impl.NInt, N: 1}, impl.Node{Kind: impl.NVar, Name: "x"}
	cases := []struct {
		what string
		l    []impl.Node
	}{
		{"the last node's part begins at 1", []impl.Node{one, one}},
		{"the last node's part begins at 1, though it has a kid", []impl.Node{one, name, {Kind: impl.NFst, A: 1}}},
		{"a node that is nobody's kid in the middle", []impl.Node{one, name, one, {Kind: impl.NPair, A: 1, B: 2}}},
		{"both kids are one node", []impl.Node{one, {Kind: impl.NPair, A: 0, B: 0}}},
		{"both kids are one node, the first of two", []impl.Node{one, one, {Kind: impl.NPair, A: 0, B: 0}}},
		{"both kids are one node, the second of two", []impl.Node{one, one, {Kind: impl.NPair, A: 1, B: 1}}},
		{"the kids stand the other way round", []impl.Node{one, one, {Kind: impl.NPair, A: 1, B: 0}}},
		{"a kid is itself", []impl.Node{{Kind: impl.NFst}}},
		{"a kid is behind its node", []impl.Node{{Kind: impl.NFst, A: 1}, one}},
		{"a kid is below 0", []impl.Node{{Kind: impl.NFst, A: -1}}},
		{"two kids below 0", []impl.Node{{Kind: impl.NPair, A: -2, B: -1}}},
		{"the first kid is below 0", []impl.Node{one, {Kind: impl.NPair, A: -1, B: 0}}},
		{"the first of three kids is below 0", []impl.Node{one, one, {Kind: impl.NIf, A: -1, B: 0, C: 1}}},
		{"the first kid lies in the second one's part", []impl.Node{one, name, {Kind: impl.NFun, A: 1, Name: "x"}, {Kind: impl.NApp, A: 1, B: 2}}},
		{"a node has two parents", []impl.Node{one, {Kind: impl.NFst, A: 0}, {Kind: impl.NFst, A: 0}, {Kind: impl.NPair, A: 1, B: 2}}},
		{"a ring", []impl.Node{{Kind: impl.NFst, A: 1}, {Kind: impl.NFst, A: 0}}},
		{"a right program, and one more behind it", append(oneOfEach(impl.NMatch), one)},
		{"a number where there is no kid", []impl.Node{{Kind: impl.NNil, A: 1}}},
		{"a name for a number", []impl.Node{{Kind: impl.NInt, Name: "x"}}},
		{"a key for a name", []impl.Node{{Kind: impl.NVar, Name: "nil"}}},
	}
	for _, c := range cases {
		mustBeWrong(t, c.what, c.l)
	}
}

// checkAgainstRule holds a list, right or not, against the rule walked downwards.
func checkAgainstRule(t *testing.T, l []impl.Node) {
	t.Helper()
	if rightByRule(l) {
		mustBeRight(t, l)
	} else {
		mustBeWrong(t, "by the rule", l)
	}
}

// TestListsOfAnyKids goes through all lists of up to three nodes with all kids'
// numbers that are near, and through all kids of a fourth node with three.
func TestListsOfAnyKids(t *testing.T) {
	var nodes []impl.Node
	for _, kind := range []int{impl.NInt, impl.NFst, impl.NPair} {
		for a := -1; a <= 2; a++ {
			for b := -1; b <= 2; b++ {
				nodes = append(nodes, impl.Node{Kind: kind, A: a, B: b})
			}
		}
	}
	lists := [][]impl.Node{nil}
	for range 3 {
		var longer [][]impl.Node
		for _, l := range lists {
			for _, n := range nodes {
				m := append(slices.Clone(l), n)
				longer = append(longer, m)
				checkAgainstRule(t, m)
			}
		}
		lists = longer
	}
	for _, ahead := range [][]impl.Node{{nodes[5], nodes[5], nodes[5]}, over(impl.NPair, 0, nodes[5:6], nodes[5:6]), over(impl.NFst, 0, over(impl.NFst, 0, nodes[5:6])),
		append(over(impl.NFst, 0, nodes[5:6]), nodes[5])} {
		for i := range 6 * 6 * 6 {
			checkAgainstRule(t, append(slices.Clone(ahead), impl.Node{Kind: impl.NIf, A: i%6 - 1, B: i/6%6 - 1, C: i/36 - 1}))
		}
	}
}

// TestListsOfAnyKinds goes through all rows of up to four kinds, with the kids
// that such a list would have if it were laid out rightly.
func TestListsOfAnyKinds(t *testing.T) {
	rows := [][]impl.Node{nil}
	for range 4 {
		var longer [][]impl.Node
		for _, l := range rows {
			for _, s := range shapes {
				n := impl.Node{Kind: s.kind}
				if s.names >= 1 {
					n.Name = "x"
				}
				if s.names >= 2 {
					n.Other = "y"
				}
				due := len(l) - 1
				for k := s.kids - 1; k >= 0; k-- {
					*[]*int{&n.A, &n.B, &n.C}[k] = due
					due = startByRule(l, due) - 1
				}
				m := append(slices.Clone(l), n)
				longer = append(longer, m)
				checkAgainstRule(t, m)
			}
		}
		rows = longer
	}
}

func TestSameNodes(t *testing.T) {
	l := []impl.Node{{Kind: 1, A: 2, B: 3, C: 4, N: 5, Name: "a", Other: "b"}, {Kind: -7, A: -1, N: math.MaxInt, Name: "fun", Other: "\xff"}, {}, {}}
	lists := [][]impl.Node{nil, {{}}, l, l[:1], l[:3], l[1:], oneOfEach(impl.NMatch), append(slices.Clone(l), l[0]),
		slices.Repeat([]impl.Node{{Kind: impl.NNil}}, 5000), slices.Repeat([]impl.Node{{Kind: impl.NNil}}, 5001), {l[1], l[0], l[2], l[3]}}
	for i := range l {
		for _, turn := range []func(n *impl.Node){func(n *impl.Node) { n.Kind++ }, func(n *impl.Node) { n.A++ }, func(n *impl.Node) { n.B++ },
			func(n *impl.Node) { n.C++ }, func(n *impl.Node) { n.N-- }, func(n *impl.Node) { n.Name += "c" }, func(n *impl.Node) { n.Other += "c" }} {
			lists = append(lists, turned(l, i, turn))
		}
	}
	for i, a := range lists {
		for j, b := range lists {
			if got := impl.SameNodes(a, b); got != (i == j) {
				t.Errorf("SameNodes of %s and %s is %v", tell(a), tell(b), got)
			}
		}
		if !impl.SameNodes(a, slices.Clone(a)) {
			t.Errorf("SameNodes of %s and a copy of it is false", tell(a))
		}
	}
	if !impl.SameNodes(nil, []impl.Node{}) || !impl.SameNodes([]impl.Node{}, nil) {
		t.Error("SameNodes of nothing and nil")
	}
	one, two := slices.Clone(l), slices.Clone(l)
	one[0].Name, two[0].Name = strings.Repeat("q", 3), "qq"+string(byte('q'))
	if !impl.SameNodes(one, two) {
		t.Error("SameNodes hangs on where a text lies")
	}
}

// TestNodesStayAsTheyAre: neither a list nor the room behind it is written into.
func TestNodesStayAsTheyAre(t *testing.T) {
	for _, l := range append(greatPrograms(20), oneOfEach(impl.NMatch), oneOfEach(impl.NVar), []impl.Node{{Kind: impl.NFst, A: 3}}) {
		room := append(slices.Clone(l), slices.Repeat([]impl.Node{{Kind: 99, Name: "behind"}}, 10)...)
		before := slices.Clone(room)
		given := room[:len(l)]
		impl.NodesOk(given)
		impl.SameNodes(given, room[1:])
		for i := -1; i <= len(l); i++ {
			impl.StartOf(given, i)
			for j, n := range impl.Part(given, i) {
				impl.Part(given, i)[j] = impl.Node{Name: n.Name + "x"}
			}
			for _, n := range given {
				kids := impl.Kids(n)
				for k := range kids {
					kids[k] = -5
				}
			}
		}
		if !slices.Equal(room, before) {
			t.Fatalf("%s were written into", tell(l))
		}
	}
}

func TestAnswersAreNewMemory(t *testing.T) {
	l := oneOfEach(impl.NMatch)
	for i := range l {
		l[i].Name, l[i].Other = strings.Clone(l[i].Name), strings.Clone(l[i].Other)
	}
	one, two := impl.Part(l, len(l)-1), impl.Part(l, len(l)-1)
	for i := range l {
		if &one[i] == &l[i] || &one[i] == &two[i] {
			t.Errorf("Part shares node %d", i)
		}
		for _, texts := range [][2]string{{l[i].Name, one[i].Name}, {l[i].Other, one[i].Other}} {
			if texts[0] != "" && unsafe.StringData(texts[0]) == unsafe.StringData(texts[1]) {
				t.Errorf("Part shares a text of node %d", i)
			}
		}
	}
	one[0].N, l[1].Name = 8, "w"
	if l[0].N != 7 || two[0].N != 7 || two[1].Name != "z" {
		t.Error("Part's answer hangs together with its list")
	}
	n := l[len(l)-1]
	kids := impl.Kids(n)
	kids[0] = 9
	if again := impl.Kids(n); !slices.Equal(again, []int{0, 1, 2}) {
		t.Error("Kids keeps what it answered", again)
	}
}
