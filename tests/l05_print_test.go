package tests

import (
	"math"
	"slices"
	"strconv"
	"strings"
	"testing"

	"loop.example/g01292/impl"
)

// mustPrint holds Print of a right program against its text, and P4: Parse takes
// the text, and tells the same nodes.
func mustPrint(t *testing.T, l []impl.Node, want string) {
	t.Helper()
	got := impl.Print(l)
	if got != want {
		t.Fatalf("Print(%s) = %s, want %s", tell(l), quoted(got), quoted(want))
	}
	mustRead(t, got, l)
}

// mustPrintParts holds PrintPart of each node against Print of Part of it, and
// asks for nodes that there are not.
func mustPrintParts(t *testing.T, l []impl.Node) {
	t.Helper()
	for i := range l {
		want := impl.Print(impl.Part(l, i))
		if got := impl.PrintPart(l, i); got != want || got == "" || got != joined(wordsOf(l, i)) {
			t.Fatalf("PrintPart(%s, %d) = %s, want %s", tell(l), i, quoted(got), quoted(want))
		}
	}
	if got, whole := impl.PrintPart(l, len(l)-1), impl.Print(l); got != whole {
		t.Fatalf("PrintPart of the last of %s is %s, but Print is %s", tell(l), quoted(got), quoted(whole))
	}
	noPartToPrint(t, l)
}

func noPartToPrint(t *testing.T, l []impl.Node) {
	t.Helper()
	for _, i := range []int{-1, -2, -len(l) - 1, len(l), len(l) + 1, 150, 151, 1 << 32, -1 << 32, math.MinInt, math.MaxInt} {
		if i >= 0 && i < len(l) {
			continue
		}
		if got := impl.PrintPart(l, i); got != "" {
			t.Fatalf("PrintPart(%s, %d) = %s", tell(l), i, quoted(got))
		}
	}
}

// mustNotPrint asks for the empty text of nodes that are not right.
func mustNotPrint(t *testing.T, what string, l []impl.Node) {
	t.Helper()
	if got := impl.Print(l); got != "" {
		t.Fatalf("%s: Print(%s) = %s", what, tell(l), quoted(got))
	}
	for i := range l {
		if got := impl.PrintPart(l, i); got != "" {
			t.Fatalf("%s: PrintPart(%s, %d) = %s", what, tell(l), i, quoted(got))
		}
	}
	noPartToPrint(t, l)
}

// handWritten are programs and their texts, each form by itself and forms within
// forms.
func handWritten() []struct {
	text string
	l    []impl.Node
} {
	one, name, none := impl.Node{Kind: impl.NInt, N: 1}, impl.Node{Kind: impl.NVar, Name: "x"}, impl.Node{Kind: impl.NNil}
	three := []impl.Node{one, name, none}
	ending := func(kids int, n impl.Node) []impl.Node { return append(slices.Clone(three[:kids]), n) }
	return []struct {
		text string
		l    []impl.Node
	}{
		{"1", []impl.Node{one}}, {"x", []impl.Node{name}}, {"nil", []impl.Node{none}},
		{"0", []impl.Node{{Kind: impl.NInt}}}, {"65535", []impl.Node{{Kind: impl.NInt, N: 65535}}}, {"10", []impl.Node{{Kind: impl.NInt, N: 10}}},
		{"abcdefgh", []impl.Node{{Kind: impl.NVar, Name: "abcdefgh"}}},
		{"(fst 1)", ending(1, impl.Node{Kind: impl.NFst})}, {"(snd 1)", ending(1, impl.Node{Kind: impl.NSnd})},
		{"(ref 1)", ending(1, impl.Node{Kind: impl.NRef})}, {"(get 1)", ending(1, impl.Node{Kind: impl.NGet})},
		{"(raise 1)", ending(1, impl.Node{Kind: impl.NRaise})}, {"(fun a 1)", ending(1, impl.Node{Kind: impl.NFun, Name: "a"})},
		{"(app 1 x)", ending(2, impl.Node{Kind: impl.NApp, B: 1})}, {"(pair 1 x)", ending(2, impl.Node{Kind: impl.NPair, B: 1})},
		{"(cons 1 x)", ending(2, impl.Node{Kind: impl.NCons, B: 1})}, {"(set 1 x)", ending(2, impl.Node{Kind: impl.NSet, B: 1})},
		{"(add 1 x)", ending(2, impl.Node{Kind: impl.NPrim, B: 1, N: 0})}, {"(sub 1 x)", ending(2, impl.Node{Kind: impl.NPrim, B: 1, N: 1})},
		{"(less 1 x)", ending(2, impl.Node{Kind: impl.NPrim, B: 1, N: 2})}, {"(same 1 x)", ending(2, impl.Node{Kind: impl.NPrim, B: 1, N: 3})},
		{"(let a 1 x)", ending(2, impl.Node{Kind: impl.NLet, B: 1, Name: "a"})}, {"(try 1 a x)", ending(2, impl.Node{Kind: impl.NTry, B: 1, Name: "a"})},
		{"(rec a b 1 x)", ending(2, impl.Node{Kind: impl.NRec, B: 1, Name: "a", Other: "b"})},
		{"(rec a a 1 x)", ending(2, impl.Node{Kind: impl.NRec, B: 1, Name: "a", Other: "a"})},
		{"(if 1 x nil)", ending(3, impl.Node{Kind: impl.NIf, B: 1, C: 2})},
		{"(match 1 x a b nil)", ending(3, impl.Node{Kind: impl.NMatch, B: 1, C: 2, Name: "a", Other: "b"})},
		{"(fst (snd (ref (get (raise (fun a 1))))))", append(ending(1, impl.Node{Kind: impl.NFun, Name: "a"}), impl.Node{Kind: impl.NRaise, A: 1},
			impl.Node{Kind: impl.NGet, A: 2}, impl.Node{Kind: impl.NRef, A: 3}, impl.Node{Kind: impl.NSnd, A: 4}, impl.Node{Kind: impl.NFst, A: 5})},
		{"(add (sub 1 x) (fst nil))", []impl.Node{one, name, {Kind: impl.NPrim, B: 1, N: 1}, none, {Kind: impl.NFst, A: 3}, {Kind: impl.NPrim, A: 2, B: 4}}},
		{"(pair (pair 1 1) (pair 1 1))", []impl.Node{one, one, {Kind: impl.NPair, B: 1}, one, one, {Kind: impl.NPair, A: 3, B: 4}, {Kind: impl.NPair, A: 2, B: 5}}},
		{"(if (less 1 x) (cons 1 nil) nil)", []impl.Node{one, name, {Kind: impl.NPrim, B: 1, N: 2}, one, none, {Kind: impl.NCons, A: 3, B: 4}, none,
			{Kind: impl.NIf, A: 2, B: 5, C: 6}}},
		{"(match (cons 1 nil) (raise 1) h t (app f (if h 2 3)))", []impl.Node{one, none, {Kind: impl.NCons, B: 1}, one, {Kind: impl.NRaise, A: 3},
			{Kind: impl.NVar, Name: "f"}, {Kind: impl.NVar, Name: "h"}, {Kind: impl.NInt, N: 2}, {Kind: impl.NInt, N: 3}, {Kind: impl.NIf, A: 6, B: 7, C: 8},
			{Kind: impl.NApp, A: 5, B: 9}, {Kind: impl.NMatch, A: 2, B: 4, C: 10, Name: "h", Other: "t"}}},
		{"(try (rec f x (app f x) (raise 1)) e (let y nil (set (ref y) e)))", []impl.Node{{Kind: impl.NVar, Name: "f"}, name, {Kind: impl.NApp, B: 1}, one,
			{Kind: impl.NRaise, A: 3}, {Kind: impl.NRec, A: 2, B: 4, Name: "f", Other: "x"}, none, {Kind: impl.NVar, Name: "y"}, {Kind: impl.NRef, A: 7},
			{Kind: impl.NVar, Name: "e"}, {Kind: impl.NSet, A: 8, B: 9}, {Kind: impl.NLet, A: 6, B: 10, Name: "y"}, {Kind: impl.NTry, A: 5, B: 11, Name: "e"}}},
		{"(let abcdefgh (get r) (same abcdefgh zzzzzzzz))", []impl.Node{{Kind: impl.NVar, Name: "r"}, {Kind: impl.NGet}, {Kind: impl.NVar, Name: "abcdefgh"},
			{Kind: impl.NVar, Name: "zzzzzzzz"}, {Kind: impl.NPrim, A: 2, B: 3, N: 3}, {Kind: impl.NLet, A: 1, B: 4, Name: "abcdefgh"}}},
	}
}

func TestPrintByHand(t *testing.T) {
	seen := map[[2]int]bool{}
	for _, c := range handWritten() {
		mustPrint(t, c.l, c.text)
		mustPrintParts(t, c.l)
		seen[[2]int{c.l[len(c.l)-1].Kind, c.l[len(c.l)-1].N}] = true
	}
	for _, f := range bookForms {
		if !seen[[2]int{f.kind, f.op}] {
			t.Errorf("no text is written out for %s", f.key)
		}
	}
}

// TestPrintOfAllSmallPrograms: P4 of all programs of up to five nodes, by kind.
func TestPrintOfAllSmallPrograms(t *testing.T) {
	for size, programs := range programsUpTo(5) {
		for i, l := range programs {
			l = dressed(l, i+size)
			mustPrint(t, l, joined(wordsOfAll(l)))
			if size <= 4 {
				mustPrintParts(t, l)
			}
		}
	}
}

// TestBlanksOfPrint: a byte 32 parts what stands in brackets, and none stands
// elsewhere; nor does any other byte that tokens are not made of.
func TestBlanksOfPrint(t *testing.T) {
	programs := greatPrograms(impl.MaxNodes)
	for _, c := range handWritten() {
		programs = append(programs, c.l)
	}
	for i, l := range programs {
		text := impl.Print(dressed(l, i))
		if text == "" || text != strings.TrimSpace(text) || strings.Trim(text, "() abcdefghijklmnopqrstuvwxyz0123456789") != "" {
			t.Errorf("Print tells %s", quoted(text))
		}
		for _, bad := range []string{"  ", "( ", " )", ")(", "\n", "#"} {
			if strings.Contains(text, bad) {
				t.Errorf("%q stands in %s", bad, quoted(text))
			}
		}
		if tokens, bad := impl.Lex(text); bad != -1 || impl.Unlex(tokens) != text {
			t.Errorf("Unlex of the tokens of %s is %s", quoted(text), quoted(impl.Unlex(tokens)))
		}
	}
}

// TestGapsInPrinted: P4's second half, of what Print makes: other blanks, bytes
// 10 and remarks wherever tokens stand apart, at one place and at all of them.
func TestGapsInPrinted(t *testing.T) {
	for i, c := range handWritten() {
		for _, l := range [][]impl.Node{c.l, dressed(c.l, i)} {
			text := impl.Print(l)
			words := tokenTexts(t, text)
			mustRead(t, joinedClose(words), l)
			for _, gap := range gaps {
				mustRead(t, joinedBy(words, gap), l)
				mustRead(t, strings.ReplaceAll(text, " ", gap), l)
				for k := range len(words) + 1 {
					mustRead(t, joined(words[:k])+gap+joined(words[k:]), l)
				}
				again, _, _ := parse(t, joinedBy(words, gap))
				if got := impl.Print(again); got != text {
					t.Fatalf("Print of what is read of %s is %s", quoted(joinedBy(words, gap)), quoted(got))
				}
			}
			mustRead(t, text+"# a remark at the end", l)
		}
	}
}

// TestPrintOfReadTexts: a text that is as Print makes it comes again, and one that
// is not becomes so.
func TestPrintOfReadTexts(t *testing.T) {
	for _, s := range sampleTexts() {
		l, code, at := parse(t, s)
		if code != impl.PaOk {
			t.Fatalf("Parse(%s) tells %d, %d", quoted(s), code, at)
		}
		mustPrint(t, l, joined(tokenTexts(t, s)))
		mustPrintParts(t, l)
	}
	for s, want := range map[string]string{
		"(add(add 1 2)(fst x))":          "(add (add 1 2) (fst x))",
		" ( fst 1 ) ":                    "(fst 1)",
		"(fst\n1\n)":                     "(fst 1)",
		"# a\n(fun x # b\n x)#c":         "(fun x x)",
		"(match nil(raise 1)h t(ref h))": "(match nil (raise 1) h t (ref h))",
		"(try(raise(fst x))e (get e) )":  "(try (raise (fst x)) e (get e))",
		"  nil\n":                        "nil",
		"\n\n7#":                         "7",
	} {
		l, _, _ := parse(t, s)
		mustPrint(t, l, want)
	}
}

// TestPrintedTextsThatAreRefused: what Print makes, with one fault, is refused at
// the place of that fault.
func TestPrintedTextsThatAreRefused(t *testing.T) {
	for _, c := range handWritten() {
		text := impl.Print(c.l)
		words := tokenTexts(t, text)
		for i := range words {
			begin := joined(words[:i])
			mustRefuse(t, begin, impl.PaEnd, len(begin))
			mustRefuse(t, begin+" @"+joined(words[i:]), impl.PaLex, len(begin)+1)
			checkByDue(t, joined(slices.Delete(slices.Clone(words), i, i+1)))
			for _, w := range []string{"(", ")", "fun", "7", "q"} {
				checkByDue(t, joined(slices.Insert(slices.Clone(words), i, w)))
			}
		}
		mustRefuse(t, text+")", impl.PaMore, len(text))
		mustRefuse(t, text+" "+text, impl.PaMore, len(text)+1)
		if words[0] == "(" {
			mustRefuse(t, text[:len(text)-1]+" 5)", impl.PaWord, len(text))
			mustRefuse(t, "(foo"+text[1+len(words[1]):], impl.PaWord, 1)
		}
	}
}

func TestPrintOfEachNumber(t *testing.T) {
	for n := range 65536 {
		l := []impl.Node{{Kind: impl.NInt, N: n}}
		mustPrint(t, l, strconv.Itoa(n))
		mustPrint(t, append(l, impl.Node{Kind: impl.NFst}), "(fst "+strconv.Itoa(n)+")")
	}
	for _, n := range []int{65536, 65537, -1, -65535, 1 << 32, math.MaxInt, math.MinInt} {
		mustNotPrint(t, "a number", []impl.Node{{Kind: impl.NInt, N: n}})
		mustNotPrint(t, "a number below", []impl.Node{{Kind: impl.NInt, N: n}, {Kind: impl.NFst}})
	}
}

// TestNamesInTexts: a name of 8 letters is told whole at each place of a name,
// and of a program with one of 9, or with a key, there is no text.
func TestNamesInTexts(t *testing.T) {
	for i, name := range []string{"a", "z", "zq", "funs", "ni", "nill", "abcdefgh", "zzzzzzzz"} {
		other := []string{"b", "qqqqqqqq"}[i%2]
		l := []impl.Node{{Kind: impl.NVar, Name: name}}
		mustPrint(t, l, name)
		mustPrint(t, over(impl.NPair, 0, l, l), "(pair "+name+" "+name+")")
		for _, f := range bookForms {
			if shapes[f.kind-1].names == 0 {
				continue
			}
			m := oneOfEach(f.kind)
			want := " " + name
			m[len(m)-1].Name = name
			if shapes[f.kind-1].names == 2 {
				m[len(m)-1].Other = other
				want += " " + other
			}
			if got := impl.Print(m); !strings.Contains(got, want) {
				t.Errorf("Print(%s) = %s, in which %q does not stand", tell(m), quoted(got), want)
			}
			mustPrint(t, m, joined(wordsOfAll(m)))
		}
	}
	for _, name := range append([]string{"", "abcdefghi", strings.Repeat("a", 5000), "A", "a1", "1", " ", "a b", " a", "a\n", "(", "a)", "#", "é", "\xff", "\x00"}, keys...) {
		mustNotPrint(t, "a name alone", []impl.Node{{Kind: impl.NVar, Name: name}})
		for _, s := range shapes {
			l := oneOfEach(s.kind)
			if s.names >= 1 {
				mustNotPrint(t, "Name", turned(l, len(l)-1, func(n *impl.Node) { n.Name = name }))
			}
			if s.names >= 2 {
				mustNotPrint(t, "Other", turned(l, len(l)-1, func(n *impl.Node) { n.Other = name }))
			}
		}
	}
}

func TestMaxNodesInPrint(t *testing.T) {
	for _, nodes := range []int{4, 99, impl.MaxNodes - 1, impl.MaxNodes} {
		for i, l := range greatPrograms(nodes) {
			l = dressed(l, i)
			mustPrint(t, l, joined(wordsOfAll(l)))
			mustPrintParts(t, l)
		}
	}
	for _, nodes := range []int{impl.MaxNodes + 1, impl.MaxNodes + 2, 2*impl.MaxNodes + 1, 1000} {
		for _, l := range greatPrograms(nodes) {
			mustNotPrint(t, "too many nodes", l)
		}
	}
	for _, l := range [][]impl.Node{nil, {}, make([]impl.Node, 0, 5)} {
		mustNotPrint(t, "no nodes", l)
		if impl.PrintPart(l, 0) != "" {
			t.Error("PrintPart of node 0 of no nodes")
		}
	}
	long := slices.Repeat([]impl.Node{{Kind: impl.NNil}}, 100000)
	if impl.Print(long) != "" || impl.PrintPart(long, 0) != "" || impl.PrintPart(long, 99999) != "" {
		t.Error("a very long list has a text")
	}
}

// TestLongestTexts: MaxNodes nodes with the longest keys, names and numbers have a
// text that is short enough to be read.
func TestLongestTexts(t *testing.T) {
	leaf := []impl.Node{{Kind: impl.NVar, Name: "longname"}}
	for _, s := range shapes {
		if s.kids == 0 {
			continue
		}
		for side := range s.kids {
			l := leaf
			for len(l)+s.kids <= impl.MaxNodes {
				parts := [][]impl.Node{leaf, leaf, leaf}[:s.kids]
				parts[side] = l
				l = over(s.kind, s.names, parts...)
			}
			for i := range l {
				if l[i].Name != "" {
					l[i].Name = "longname"
				}
				if l[i].Other != "" {
					l[i].Other = "longlong"
				}
				if l[i].Kind == impl.NPrim {
					l[i].N = impl.OpSame
				}
			}
			mustPrint(t, l, joined(wordsOfAll(l)))
			if len(impl.Print(l)) > impl.MaxText {
				t.Errorf("the text of %s is longer than MaxText", tell(l))
			}
		}
	}
}

// wrongTurns makes of a right program those that are not right any more when one
// field of one node is another.
func wrongTurns(l []impl.Node, i int) [][]impl.Node {
	var out [][]impl.Node
	turn := func(f func(n *impl.Node)) {
		if m := turned(l, i, f); !rightByRule(m) {
			out = append(out, m)
		}
	}
	for _, kind := range strayKinds {
		turn(func(n *impl.Node) { n.Kind = kind })
	}
	for _, s := range shapes {
		turn(func(n *impl.Node) { n.Kind = s.kind })
	}
	for _, k := range []int{-1, 1, 4, 65536, 1 << 32, math.MinInt, math.MaxInt} {
		turn(func(n *impl.Node) { n.N = k })
	}
	for _, more := range []int{1, -1, 150, -150, 1 << 32, -1 << 32, math.MinInt} {
		turn(func(n *impl.Node) { n.A += more })
		turn(func(n *impl.Node) { n.B += more })
		turn(func(n *impl.Node) { n.C += more })
	}
	for _, name := range []string{"", "x", "abcdefghi", "fun", "nil", "A", "a ", "1", "\xff"} {
		turn(func(n *impl.Node) { n.Name = name })
		turn(func(n *impl.Node) { n.Other = name })
	}
	return out
}

// TestPrintOfOneWrongField: each field of each node in turn is not right, in a
// program that is otherwise.
func TestPrintOfOneWrongField(t *testing.T) {
	var programs [][]impl.Node
	for _, c := range handWritten() {
		programs = append(programs, c.l)
	}
	for _, s := range shapes {
		l := oneOfEach(s.kind)
		programs = append(programs, l, over(impl.NApp, 0, l, l), over(impl.NMatch, 2, l, l, l), over(impl.NRaise, 0, l))
	}
	for _, l := range programs {
		mustPrintParts(t, l)
		for i := range l {
			wrong := wrongTurns(l, i)
			if len(wrong) < 50 {
				t.Fatalf("only %d turns of node %d of %s are wrong", len(wrong), i, tell(l))
			}
			for _, m := range wrong {
				mustNotPrint(t, "one wrong field", m)
			}
		}
	}
}

func TestPrintOfWrongLists(t *testing.T) {
	one, name := impl.Node{Kind: impl.NInt, N: 1}, impl.Node{Kind: impl.NVar, Name: "x"}
	for what, l := range map[string][]impl.Node{
		"the zero node":                                    {{}},
		"two programs":                                     {one, one},
		"the last part begins at 1":                        {one, name, {Kind: impl.NFst, A: 1}},
		"a node that is nobody's kid":                      {one, name, one, {Kind: impl.NPair, A: 1, B: 2}},
		"both kids are one node":                           {one, one, {Kind: impl.NPair, A: 1, B: 1}},
		"the kids stand the other way round":               {one, one, {Kind: impl.NPair, A: 1, B: 0}},
		"a kid is itself":                                  {{Kind: impl.NFst}},
		"a kid is behind its node":                         {{Kind: impl.NFst, A: 1}, one},
		"a ring":                                           {{Kind: impl.NFst, A: 1}, {Kind: impl.NFst, A: 0}},
		"a kid is missing":                                 {{Kind: impl.NPair, A: -1, B: 0}},
		"one more behind a right one":                      append(oneOfEach(impl.NMatch), one),
		"a right part, but what stands over it is not":     append(oneOfEach(impl.NLet), impl.Node{Kind: impl.NFst, A: 2, Name: "x"}),
		"a right part, but what stands ahead of it is not": {{Kind: impl.NInt, N: -1}, name, {Kind: impl.NPair, A: 0, B: 1}},
	} {
		mustNotPrint(t, what, l)
	}
	for _, nodes := range []int{4, 20, impl.MaxNodes} {
		for _, l := range greatPrograms(nodes) {
			mustNotPrint(t, "the last node is gone", append(slices.Clone(l[:len(l)-1]), impl.Node{}))
			mustNotPrint(t, "the first node is gone", append([]impl.Node{{}}, l[1:]...))
			mustNotPrint(t, "one more", append(slices.Clone(l), l[0]))
		}
	}
}

func TestKeyOf(t *testing.T) {
	want := map[int]string{impl.NFun: "fun", impl.NApp: "app", impl.NLet: "let", impl.NRec: "rec", impl.NIf: "if", impl.NPair: "pair", impl.NFst: "fst",
		impl.NSnd: "snd", impl.NNil: "nil", impl.NCons: "cons", impl.NMatch: "match", impl.NRef: "ref", impl.NGet: "get", impl.NSet: "set",
		impl.NRaise: "raise", impl.NTry: "try"}
	check := func(n impl.Node, want string) {
		t.Helper()
		if got := impl.KeyOf(n); got != want {
			t.Errorf("KeyOf(%+v) = %q, want %q", n, got, want)
		}
	}
	// KeyOf goes by Kind, and by N with NPrim alone: what else stands in a node, right or not, changes nothing.
	others := []impl.Node{{}, {A: -1, B: 151, C: math.MinInt, N: -1, Name: "fun", Other: "no name"}, {A: 5, B: 6, C: 7, N: 2, Name: "x", Other: "y"},
		{N: 3, Name: "raise"}, {N: 4}, {N: 65536, Other: "\xff"}, {A: math.MaxInt, N: math.MaxInt}, {N: math.MinInt, Name: strings.Repeat("a", 5000)}}
	for _, n := range others {
		for kind := impl.NVar; kind <= impl.NTry; kind++ {
			if n.Kind = kind; kind != impl.NPrim {
				check(n, want[kind])
			}
		}
		for _, kind := range append([]int{0, -1, impl.NTry + 1}, strayKinds...) {
			n.Kind = kind
			check(n, "")
		}
		n.Kind = impl.NPrim
		for op, key := range []string{"add", "sub", "less", "same"} {
			n.N = op
			check(n, key)
		}
		for _, op := range []int{-1, 4, 5, -4, 255, 256, 65536, 1 << 32, 3 - 1<<32, math.MinInt, math.MaxInt} {
			n.N = op
			check(n, "")
		}
	}
	for kind := impl.NTry + 1; kind < 2000; kind++ {
		check(impl.Node{Kind: kind}, "")
		check(impl.Node{Kind: -kind}, "")
	}
	check(impl.Node{Kind: impl.NPrim, N: impl.OpAdd}, "add")
	check(impl.Node{Kind: impl.NPrim, N: impl.OpSame}, "same")
}

// TestKeysOfForms: KeyOf tells the key of what Parse reads, and it is one by IsKey.
func TestKeysOfForms(t *testing.T) {
	told := map[string]bool{}
	for _, f := range bookForms {
		l, code, _ := parse(t, "("+f.key+strings.NewReplacer("n", " n", "e", " e").Replace(f.parts)+")")
		if key := impl.KeyOf(l[len(l)-1]); code != impl.PaOk || key != f.key || !impl.IsKey(key) {
			t.Errorf("KeyOf of what is read of (%s ..) is %q", f.key, key)
		}
		told[impl.KeyOf(l[len(l)-1])] = true
	}
	told[impl.KeyOf(impl.Node{Kind: impl.NNil})] = true
	for _, k := range keys {
		if !told[k] {
			t.Errorf("KeyOf tells %s of nothing", k)
		}
	}
}

// TestPrintLeavesNodesAsTheyAre: neither a list nor the room behind it is written
// into.
func TestPrintLeavesNodesAsTheyAre(t *testing.T) {
	programs := append(greatPrograms(20), []impl.Node{{Kind: impl.NFst, A: 3}}, greatPrograms(impl.MaxNodes + 1)[0], nil)
	for _, c := range handWritten() {
		programs = append(programs, c.l, turned(c.l, len(c.l)-1, func(n *impl.Node) { n.N = -1 }))
	}
	for _, l := range programs {
		room := append(slices.Clone(l), slices.Repeat([]impl.Node{{Kind: 99, Name: "behind"}}, 10)...)
		before := slices.Clone(room)
		given := room[:len(l)]
		impl.Print(given)
		for i := -1; i <= len(l); i++ {
			impl.PrintPart(given, i)
		}
		for _, n := range given {
			impl.KeyOf(n)
		}
		if !slices.Equal(room, before) {
			t.Fatalf("%s were written into", tell(l))
		}
	}
}

// TestPrintAnswersInNewMemory: a text that is one name does not lie in that name.
func TestPrintAnswersInNewMemory(t *testing.T) {
	name := strings.Clone("longname")
	l := []impl.Node{{Kind: impl.NVar, Name: name}}
	m := append(slices.Clone(l), impl.Node{Kind: impl.NFun, Name: name})
	for _, text := range []string{impl.Print(l), impl.PrintPart(l, 0), impl.Print(m), impl.PrintPart(m, 0), impl.PrintPart(m, 1)} {
		if liesIn(text, name) || liesIn(name, text) {
			t.Errorf("the text %q shares memory with a name of the program", text)
		}
	}
	if one, two := impl.Print(m), impl.Print(m); liesIn(one, two) {
		t.Error("two answers share memory")
	}
}

// TestPrintKeepsNothing: a program is told as ever behind others.
func TestPrintKeepsNothing(t *testing.T) {
	for _, c := range handWritten() {
		for _, other := range [][]impl.Node{nil, {{}}, oneOfEach(impl.NMatch), {{Kind: impl.NFst, A: 7}}, greatPrograms(150)[0], greatPrograms(151)[0]} {
			impl.Print(other)
			impl.PrintPart(other, len(other)-1)
			impl.PrintPart(other, len(other))
			mustPrint(t, c.l, c.text)
		}
	}
}

// TestPrintOfAnyNodes: no list makes Print, PrintPart or KeyOf panic, and there is
// a text just where the nodes are right.
func TestPrintOfAnyNodes(t *testing.T) {
	next := dice(1)
	numbers := []int{0, 0, 0, 1, 2, 3, -1, 4, 150, 65535, 65536, math.MinInt, math.MaxInt}
	names := []string{"", "", "x", "y", "abcdefgh", "abcdefghi", "fun", "\xff"}
	right := 0
	for range 60000 {
		l := make([]impl.Node, next(6))
		for i := range l {
			s := shapes[next(len(shapes))]
			l[i] = impl.Node{Kind: s.kind}
			for k := range s.kids {
				*[]*int{&l[i].A, &l[i].B, &l[i].C}[k] = i - s.kids + k
			}
			if s.names >= 1 {
				l[i].Name = "x"
			}
			if s.names >= 2 {
				l[i].Other = "y"
			}
			for range next(20) / 17 {
				*[]*int{&l[i].Kind, &l[i].A, &l[i].B, &l[i].C, &l[i].N}[next(5)] = numbers[next(len(numbers))]
				*[]*string{&l[i].Name, &l[i].Other}[next(2)] = names[next(len(names))]
			}
			impl.KeyOf(l[i])
		}
		if rightByRule(l) {
			right++
			mustPrint(t, l, joined(wordsOfAll(l)))
			mustPrintParts(t, l)
		} else {
			mustNotPrint(t, "any nodes", l)
		}
	}
	if right < 1000 {
		t.Errorf("only %d of the lists were right", right)
	}
}
