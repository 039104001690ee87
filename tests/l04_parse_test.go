package tests

import (
	"slices"
	"strconv"
	"strings"
	"testing"
	"unsafe"

	"loop.example/g01292/impl"
)

type bookForm struct {
	key, parts string
	kind, op   int
}

// bookForms are the forms as chapter 4 lists them: n is a name, e an expression.
var bookForms = []bookForm{
	{"fun", "ne", impl.NFun, 0}, {"app", "ee", impl.NApp, 0}, {"let", "nee", impl.NLet, 0}, {"rec", "nnee", impl.NRec, 0},
	{"if", "eee", impl.NIf, 0}, {"add", "ee", impl.NPrim, impl.OpAdd}, {"sub", "ee", impl.NPrim, impl.OpSub},
	{"less", "ee", impl.NPrim, impl.OpLess}, {"same", "ee", impl.NPrim, impl.OpSame}, {"pair", "ee", impl.NPair, 0},
	{"fst", "e", impl.NFst, 0}, {"snd", "e", impl.NSnd, 0}, {"cons", "ee", impl.NCons, 0}, {"match", "eenne", impl.NMatch, 0},
	{"ref", "e", impl.NRef, 0}, {"get", "e", impl.NGet, 0}, {"set", "ee", impl.NSet, 0}, {"raise", "e", impl.NRaise, 0},
	{"try", "ene", impl.NTry, 0},
}

// wordsOf are the tokens of node i and what is under it, as chapter 4 has them.
func wordsOf(l []impl.Node, i int) []string {
	n := l[i]
	switch n.Kind {
	case impl.NVar:
		return []string{n.Name}
	case impl.NInt:
		return []string{strconv.Itoa(n.N)}
	case impl.NNil:
		return []string{"nil"}
	}
	kids, names := []int{n.A, n.B, n.C}, []string{n.Name, n.Other}
	for _, f := range bookForms {
		if f.kind != n.Kind || f.op != n.N {
			continue
		}
		out := []string{"(", f.key}
		for _, p := range f.parts {
			if p == 'n' {
				out, names = append(out, names[0]), names[1:]
			} else {
				out, kids = append(out, wordsOf(l, kids[0])...), kids[1:]
			}
		}
		return append(out, ")")
	}
	panic("no form")
}

func wordsOfAll(l []impl.Node) []string { return wordsOf(l, len(l)-1) }

// joined lays a byte 32 where Unlex would.
func joined(words []string) string {
	var out strings.Builder
	for i, w := range words {
		if i > 0 && words[i-1] != "(" && w != ")" {
			out.WriteByte(' ')
		}
		out.WriteString(w)
	}
	return out.String()
}

// joinedClose lays one only where two words or two numbers would run together.
func joinedClose(words []string) string {
	sort := func(w string) int {
		switch {
		case w == "(" || w == ")":
			return 0
		case w[0] >= '0' && w[0] <= '9':
			return 1
		}
		return 2
	}
	var out strings.Builder
	for i, w := range words {
		if i > 0 && sort(w) != 0 && sort(w) == sort(words[i-1]) {
			out.WriteByte(' ')
		}
		out.WriteString(w)
	}
	return out.String()
}

var gaps = []string{" ", "\n", "   ", "\n\n", " \n \n ", "#\n", "# a remark\n", " # ) ( nil @ é \xff 007 abcdefghi \t\n ", "\n#a\n##b\n#\n"}

// joinedBy lays the gap ahead of each token, between them and behind the last.
func joinedBy(words []string, gap string) string {
	return gap + strings.Join(words, gap) + gap
}

// dressed gives each node names, numbers and operators of its own.
func dressed(l []impl.Node, shift int) []impl.Node {
	names := []string{"x", "y", "a", "z", "abcdefgh", "zzzzzzzz", "funs", "ni", "nill", "le", "tr", "i", "f", "matchh", "var", "int", "in", "vq"}
	numbers := []int{0, 65535, 1, 7, 9, 10, 99, 100, 255, 256, 4095, 32768, 65534, 10000}
	out := slices.Clone(l)
	for i := range out {
		at := i + shift
		switch out[i].Kind {
		case impl.NInt:
			out[i].N = numbers[at%len(numbers)]
		case impl.NPrim:
			out[i].N = at % 4
		}
		if out[i].Name != "" {
			out[i].Name = names[at%len(names)]
		}
		if out[i].Other != "" {
			out[i].Other = names[(3*at+1)%len(names)]
		}
	}
	return out
}

// parse asks for what holds of each answer, whatever the text is.
func parse(t *testing.T, s string) ([]impl.Node, int, int) {
	t.Helper()
	l, code, at := impl.Parse(s)
	if impl.Parses(s) != (code == impl.PaOk) {
		t.Fatalf("Parses(%s) = %v beside the code %d", quoted(s), impl.Parses(s), code)
	}
	if code == impl.PaOk && (at != 0 || !impl.NodesOk(l)) {
		t.Fatalf("Parse(%s) = %s, PaOk, %d", quoted(s), tell(l), at)
	}
	if code != impl.PaOk && len(l) != 0 {
		t.Fatalf("Parse(%s) tells %s beside the code %d", quoted(s), tell(l), code)
	}
	return l, code, at
}

// quoted is for faults: the text that was asked, short.
func quoted(s string) string {
	if len(s) > 200 {
		return strconv.Quote(s[:100]) + " .. " + strconv.Quote(s[len(s)-100:])
	}
	return strconv.Quote(s)
}

func mustRead(t *testing.T, s string, want []impl.Node) {
	t.Helper()
	if l, code, at := parse(t, s); code != impl.PaOk || !slices.Equal(l, want) {
		t.Fatalf("Parse(%s) = %s, %d, %d, want %s", quoted(s), tell(l), code, at, tell(want))
	}
}

func mustRefuse(t *testing.T, s string, code int, at int) {
	t.Helper()
	if l, c, a := parse(t, s); c != code || a != at {
		t.Fatalf("Parse(%s) = %s, %d, %d, want the code %d at %d", quoted(s), tell(l), c, a, code, at)
	}
}

// parseByDue says what chapter 4 says by a list of what is due: e an expression,
// n a name, c a closing bracket.
func parseByDue(s string) ([]impl.Node, int, int) {
	tokens, bad := impl.Lex(s)
	if bad != -1 {
		return nil, impl.PaLex, bad
	}
	due, nodes, waiting, ends := "e", []impl.Node{}, []impl.Node{}, [][]int{{}}
	put := func(n impl.Node) {
		nodes = append(nodes, n)
		ends[len(ends)-1] = append(ends[len(ends)-1], len(nodes)-1)
	}
	for i := 0; i < len(tokens); i++ {
		w := tokens[i].Text
		if due == "" {
			return nil, impl.PaMore, tokens[i].At
		}
		d := due[0]
		due = due[1:]
		switch {
		case d == 'e' && w == "(":
			if i++; i == len(tokens) {
				return nil, impl.PaEnd, len(s)
			}
			k := slices.IndexFunc(bookForms, func(f bookForm) bool { return f.key == tokens[i].Text })
			if k < 0 {
				return nil, impl.PaWord, tokens[i].At
			}
			due = bookForms[k].parts + "c" + due
			waiting = append(waiting, impl.Node{Kind: bookForms[k].kind, N: bookForms[k].op})
			ends = append(ends, nil)
		case d == 'e' && tokens[i].Kind == impl.TkNum:
			put(impl.Node{Kind: impl.NInt, N: tokens[i].N})
		case d == 'e' && w == "nil":
			put(impl.Node{Kind: impl.NNil})
		case d == 'e' && isNameByRule(w):
			put(impl.Node{Kind: impl.NVar, Name: w})
		case d == 'n' && isNameByRule(w):
			if n := &waiting[len(waiting)-1]; n.Name == "" {
				n.Name = w
			} else {
				n.Other = w
			}
		case d == 'c' && w == ")":
			n := waiting[len(waiting)-1]
			for k, field := range []*int{&n.A, &n.B, &n.C} {
				if kids := ends[len(ends)-1]; k < len(kids) {
					*field = kids[k]
				}
			}
			waiting, ends = waiting[:len(waiting)-1], ends[:len(ends)-1]
			put(n)
		default:
			return nil, impl.PaWord, tokens[i].At
		}
	}
	switch {
	case due != "":
		return nil, impl.PaEnd, len(s)
	case len(nodes) > 150:
		return nil, impl.PaGreat, 0
	}
	return nodes, impl.PaOk, 0
}

func checkByDue(t *testing.T, s string) {
	t.Helper()
	want, wantCode, wantAt := parseByDue(s)
	if l, code, at := parse(t, s); code != wantCode || at != wantAt || !slices.Equal(l, want) {
		t.Fatalf("Parse(%s) = %s, %d, %d, want %s, %d, %d", quoted(s), tell(l), code, at, tell(want), wantCode, wantAt)
	}
}

// sampleTexts are right texts of each form, and of forms within forms.
func sampleTexts() []string {
	out := []string{"0", "nil", "x", "(let i (fun x x) (app i (app i 3)))", "(rec f x (if (less x 1) 0 (add x (app f (sub x 1)))) (app f 9))",
		"(match (cons 1 (cons 2 nil)) (raise 7) h t (pair h (match t nil a b b)))", "(let r (ref 0) (let u (set r (add (get r) 1)) (get r)))",
		"(try (raise (fst (pair 1 2))) e (same e (snd (pair 1 e))))", "(fun f (fun g (fun x (app f (app g x)))))"}
	for _, f := range bookForms {
		parts := strings.NewReplacer("n", " n", "e", " e").Replace(f.parts)
		out = append(out, "("+f.key+parts+")")
		for _, inner := range []string{"(fun n e)", "(match e e n n e)", "(rec n n e e)", "(try e n e)", "(add 1 2)", "nil", "7"} {
			out = append(out, "("+f.key+strings.ReplaceAll(parts, "e", inner)+")")
		}
	}
	return out
}

// tokenTexts are the texts of the tokens of a text that has no fault in Lex.
func tokenTexts(t *testing.T, s string) []string {
	t.Helper()
	tokens, bad := impl.Lex(s)
	if bad != -1 {
		t.Fatalf("Lex(%q) tells %d", s, bad)
	}
	var out []string
	for _, x := range tokens {
		out = append(out, x.Text)
	}
	return out
}

func TestConstantsOfReading(t *testing.T) {
	if impl.PaOk != 0 || impl.PaLex != 1 || impl.PaEnd != 2 || impl.PaWord != 3 || impl.PaMore != 4 || impl.PaGreat != 5 {
		t.Error("a constant of chapter 4 is not as the document has it")
	}
}

func TestParseOfEachForm(t *testing.T) {
	one, name, none := impl.Node{Kind: impl.NInt, N: 1}, impl.Node{Kind: impl.NVar, Name: "x"}, impl.Node{Kind: impl.NNil}
	three := []impl.Node{one, name, none}
	ending := func(kids int, n impl.Node) []impl.Node { return append(slices.Clone(three[:kids]), n) }
	cases := []struct {
		s    string
		want []impl.Node
	}{
		{"1", three[:1]}, {"x", three[1:2]}, {"nil", three[2:]}, {"0", []impl.Node{{Kind: impl.NInt}}}, {"65535", []impl.Node{{Kind: impl.NInt, N: 65535}}},
		{"(fun a 1)", ending(1, impl.Node{Kind: impl.NFun, Name: "a"})},
		{"(app 1 x)", ending(2, impl.Node{Kind: impl.NApp, B: 1})},
		{"(let a 1 x)", ending(2, impl.Node{Kind: impl.NLet, B: 1, Name: "a"})},
		{"(rec a b 1 x)", ending(2, impl.Node{Kind: impl.NRec, B: 1, Name: "a", Other: "b"})},
		{"(rec a a 1 x)", ending(2, impl.Node{Kind: impl.NRec, B: 1, Name: "a", Other: "a"})},
		{"(if 1 x nil)", ending(3, impl.Node{Kind: impl.NIf, B: 1, C: 2})},
		{"(add 1 x)", ending(2, impl.Node{Kind: impl.NPrim, B: 1, N: 0})}, {"(sub 1 x)", ending(2, impl.Node{Kind: impl.NPrim, B: 1, N: 1})},
		{"(less 1 x)", ending(2, impl.Node{Kind: impl.NPrim, B: 1, N: 2})}, {"(same 1 x)", ending(2, impl.Node{Kind: impl.NPrim, B: 1, N: 3})},
		{"(pair 1 x)", ending(2, impl.Node{Kind: impl.NPair, B: 1})}, {"(fst 1)", ending(1, impl.Node{Kind: impl.NFst})},
		{"(snd 1)", ending(1, impl.Node{Kind: impl.NSnd})}, {"(cons 1 x)", ending(2, impl.Node{Kind: impl.NCons, B: 1})},
		{"(match 1 x a b nil)", ending(3, impl.Node{Kind: impl.NMatch, B: 1, C: 2, Name: "a", Other: "b"})},
		{"(ref 1)", ending(1, impl.Node{Kind: impl.NRef})}, {"(get 1)", ending(1, impl.Node{Kind: impl.NGet})},
		{"(set 1 x)", ending(2, impl.Node{Kind: impl.NSet, B: 1})}, {"(raise 1)", ending(1, impl.Node{Kind: impl.NRaise})},
		{"(try 1 a x)", ending(2, impl.Node{Kind: impl.NTry, B: 1, Name: "a"})},
		{"(add(add 1 x)(fst nil))", []impl.Node{one, name, {Kind: impl.NPrim, B: 1}, none, {Kind: impl.NFst, A: 3}, {Kind: impl.NPrim, A: 2, B: 4}}},
		{"(match (cons 1 nil) x h t (app f (if h 2 3)))", []impl.Node{one, none, {Kind: impl.NCons, B: 1}, name, {Kind: impl.NVar, Name: "f"},
			{Kind: impl.NVar, Name: "h"}, {Kind: impl.NInt, N: 2}, {Kind: impl.NInt, N: 3}, {Kind: impl.NIf, A: 5, B: 6, C: 7},
			{Kind: impl.NApp, A: 4, B: 8}, {Kind: impl.NMatch, A: 2, B: 3, C: 9, Name: "h", Other: "t"}}},
		{"(try (rec f x (app f x) (raise 1)) e (let y nil (pair y e)))", []impl.Node{{Kind: impl.NVar, Name: "f"}, name, {Kind: impl.NApp, B: 1}, one,
			{Kind: impl.NRaise, A: 3}, {Kind: impl.NRec, A: 2, B: 4, Name: "f", Other: "x"}, none, {Kind: impl.NVar, Name: "y"},
			{Kind: impl.NVar, Name: "e"}, {Kind: impl.NPair, A: 7, B: 8}, {Kind: impl.NLet, A: 6, B: 9, Name: "y"}, {Kind: impl.NTry, A: 5, B: 10, Name: "e"}}},
	}
	for _, c := range cases {
		mustRead(t, c.s, c.want)
	}
}

// TestParseOfAllSmallPrograms: the text of each program of up to five nodes is
// read as that program.
func TestParseOfAllSmallPrograms(t *testing.T) {
	for size, programs := range programsUpTo(5) {
		for i, l := range programs {
			l = dressed(l, i+size)
			words := wordsOfAll(l)
			mustRead(t, joined(words), l)
			mustRead(t, joinedClose(words), l)
			mustRead(t, joinedBy(words, gaps[i%len(gaps)]), l)
		}
	}
}

func TestParseOfEachNumber(t *testing.T) {
	for n := range 65536 {
		mustRead(t, strconv.Itoa(n), []impl.Node{{Kind: impl.NInt, N: n}})
	}
	for _, s := range []string{"65536", "65537", "99999", "100000", "00", "01", "4294967296", "18446744073709551616", "-1", "+1", "1.0"} {
		mustRefuse(t, "(fst "+s+")", impl.PaLex, 5+max(strings.IndexByte(s, '.'), 0))
	}
}

// TestGapsChangeNothing: P4's second half, gap by gap and at all of them.
func TestGapsChangeNothing(t *testing.T) {
	for _, s := range sampleTexts() {
		want, code, _ := parse(t, s)
		words := tokenTexts(t, s)
		if code != impl.PaOk || !slices.Equal(wordsOfAll(want), words) {
			t.Fatalf("Parse(%s) = %s, %d", quoted(s), tell(want), code)
		}
		mustRead(t, joined(words), want)
		mustRead(t, joinedClose(words), want)
		for _, gap := range gaps {
			mustRead(t, joinedBy(words, gap), want)
			for i := range len(words) + 1 {
				mustRead(t, joined(words[:i])+gap+joined(words[i:]), want)
			}
		}
		for _, tail := range []string{"#", " #", "# é \xff ( ) @", "#no byte 10 behind it", "\n#\n\n"} {
			mustRead(t, s+tail, want)
		}
	}
}

// TestTooEarlyEnds: each beginning of a right text's tokens ends too early, at
// the length of the whole text.
func TestTooEarlyEnds(t *testing.T) {
	tails := append([]string{"", "#", " # )", "#)\n", "\n \n"}, gaps...)
	for _, s := range append(sampleTexts(), "(fst(fst(fst 1)))", "(if 1(if 2 3 4)(if 5 6 7))") {
		words := tokenTexts(t, s)
		for i := range words {
			for _, tail := range tails {
				for _, begin := range []string{joined(words[:i]) + tail, joinedClose(words[:i]) + tail, strings.Join(words[:i], "#\n") + tail} {
					mustRefuse(t, begin, impl.PaEnd, len(begin))
				}
			}
		}
	}
	for size, programs := range programsUpTo(4) {
		for i, l := range programs {
			words := wordsOfAll(dressed(l, i+size))
			for k := range words {
				s := joined(words[:k])
				mustRefuse(t, s, impl.PaEnd, len(s))
			}
		}
	}
}

func TestTextsWithoutTokens(t *testing.T) {
	for _, s := range append([]string{"", "#", "# a", "# 1", "#\n", " # (fst 1)", "  \n\n  ", strings.Repeat(" ", 4000), strings.Repeat("#", 4000)}, gaps...) {
		mustRefuse(t, s, impl.PaEnd, len(s))
	}
}

// withWrong lays a wrong token behind right ones, with anything behind it.
func withWrong(t *testing.T, ahead string, wrong string) {
	t.Helper()
	for _, behind := range []string{"", ")", " x", " 1 2 3)", " x x x x)))", " nil # )", " (", "\n))))", " fun"} {
		mustRefuse(t, ahead+" "+wrong+behind, impl.PaWord, len(ahead)+1)
	}
	mustRefuse(t, ahead+"#a\n"+wrong, impl.PaWord, len(ahead)+3)
	if strings.HasSuffix(ahead, "(") || wrong == "(" || wrong == ")" { // others might run together
		mustRefuse(t, ahead+wrong, impl.PaWord, len(ahead))
	}
}

// TestWrongTokensAtEachPlace: at each place of each form, alone and in others,
// each token that may not stand there.
func TestWrongTokensAtEachPlace(t *testing.T) {
	stray := []string{"x", "abcdefgh", "foo", "var", "int", "funs", "0", "65535", "nil", "(", ")"}
	noName := append([]string{"0", "7", "(", ")"}, keys...)
	var noExpression []string
	for _, k := range keys {
		if k != "nil" {
			noExpression = append(noExpression, k)
		}
	}
	noExpression = append(noExpression, ")")
	noClose := append([]string{"x", "0", "12", "("}, keys...)
	wrongAt := func(ahead string, wrong []string) {
		for _, w := range wrong {
			withWrong(t, ahead, w)
		}
	}
	for _, outer := range []string{"", "(fst", "(fun q", "(let q nil", "(rec p q (pair 1 2)", "(match x (raise 1) p q", "(try 1 e", "(if (fst 1) 2", "(cons(fst 2)", "(app(app"} {
		wrongAt(outer, noExpression)
		wrongAt(outer+"(", stray)
		for _, f := range bookForms {
			ahead := strings.TrimLeft(outer+" (", " ") + f.key
			for _, p := range f.parts {
				if p == 'n' {
					wrongAt(ahead, noName)
					ahead += " n"
				} else {
					wrongAt(ahead, noExpression)
					ahead += []string{" e", " 5", " nil", "(fst 1)"}[len(ahead)%4]
				}
			}
			wrongAt(ahead, noClose)
		}
	}
}

func TestParseOfWrongTexts(t *testing.T) {
	cases := []struct {
		s        string
		code, at int
	}{
		{"fun", impl.PaWord, 0}, {"(fun fun x)", impl.PaWord, 5}, {"(fun nil x)", impl.PaWord, 5}, {"(fun 1 x)", impl.PaWord, 5}, {"(fun (x) x)", impl.PaWord, 5},
		{"(fun ) x)", impl.PaWord, 5}, {"(let try 1 2)", impl.PaWord, 5}, {"(rec f add 1 2)", impl.PaWord, 7}, {"(rec f 1 2)", impl.PaWord, 7},
		{"(match 1 2 h nil 3)", impl.PaWord, 13}, {"(match 1 2 3 4 5)", impl.PaWord, 11}, {"(try 1 2)", impl.PaWord, 7}, {"(try 1 e)", impl.PaWord, 8},
		{"(x)", impl.PaWord, 1}, {"(1)", impl.PaWord, 1}, {"(nil)", impl.PaWord, 1}, {"()", impl.PaWord, 1}, {"((fst 1))", impl.PaWord, 1}, {"(())", impl.PaWord, 1},
		{"( x )", impl.PaWord, 2}, {"(foo 1)", impl.PaWord, 1}, {"(fun x)", impl.PaWord, 6}, {"(fun)", impl.PaWord, 4}, {"(add)", impl.PaWord, 4},
		{"(add 1)", impl.PaWord, 6}, {"(add 1 2 3)", impl.PaWord, 9}, {"(add 1 2 (fst 3))", impl.PaWord, 9}, {"(fst)", impl.PaWord, 4}, {"(fst 1 2)", impl.PaWord, 7},
		{"(if 1 2)", impl.PaWord, 7}, {"(if 1 2 3 4)", impl.PaWord, 10}, {"(let x 1)", impl.PaWord, 8}, {")", impl.PaWord, 0}, {") (", impl.PaWord, 0},
		{"add 1 2", impl.PaWord, 0}, {"(add add 1)", impl.PaWord, 5}, {"(app (add) x)", impl.PaWord, 9}, {"  raise", impl.PaWord, 2}, {"# a\nset", impl.PaWord, 4},
		{"1 2", impl.PaMore, 2}, {"x y", impl.PaMore, 2}, {"x1", impl.PaMore, 1}, {"1x", impl.PaMore, 1}, {"nil nil", impl.PaMore, 4}, {"1)", impl.PaMore, 1},
		{"x(", impl.PaMore, 1}, {"(fst 1))", impl.PaMore, 7}, {"(fst 1) # a\n x", impl.PaMore, 13}, {"(fst 1)(fst 2)", impl.PaMore, 7}, {"x fun", impl.PaMore, 2},
		{"1 ) x (", impl.PaMore, 2}, {"nil()", impl.PaMore, 3},
		{"(", impl.PaEnd, 1}, {"( ", impl.PaEnd, 2}, {"(fst", impl.PaEnd, 4}, {"(fst 1", impl.PaEnd, 6}, {"(fst 1 # )", impl.PaEnd, 10}, {"(fun", impl.PaEnd, 4},
		{"(fun x", impl.PaEnd, 6}, {"(fun x x", impl.PaEnd, 8}, {"(rec f x 1\n\n", impl.PaEnd, 12}, {"(match 1 2 h t", impl.PaEnd, 14}, {"(add 1 (sub 2 3)", impl.PaEnd, 16},
		{"(add A 2)", impl.PaLex, 5}, {"(fun fun A)", impl.PaLex, 9}, {"1 2 @", impl.PaLex, 4}, {") 007", impl.PaLex, 2}, {"(x 65536", impl.PaLex, 3},
		{"( abcdefghi", impl.PaLex, 2}, {"(fst 1) -", impl.PaLex, 8}, {"\t", impl.PaLex, 0}, {"(fst\t1)", impl.PaLex, 4}, {"(fst 1)\r\n", impl.PaLex, 7},
		{"\xff", impl.PaLex, 0}, {"(fst é)", impl.PaLex, 5}, {"x\x00", impl.PaLex, 1}, {"Fun", impl.PaLex, 0}, {"(FST 1)", impl.PaLex, 1},
		{strings.Repeat("(", 300), impl.PaWord, 1}, {strings.Repeat(")", 300), impl.PaWord, 0},
	}
	for _, c := range cases {
		mustRefuse(t, c.s, c.code, c.at)
	}
}

// TestFaultsOfLexComeFirst: they are told with Lex's place, whatever other fault
// stands ahead of them or behind.
func TestFaultsOfLexComeFirst(t *testing.T) {
	for _, ahead := range []string{"", "1", "1 2", "(", ")", "fun", "(x)", "(nil)", "(fun fun x)", "(fst 1 2)", "(fst", "((((", "nil nil # a\n", "x )"} {
		for _, bad := range []string{"@", "A", "abcdefghi", "65536", "007", "-1", "\t", "é", "\xff", "\x00"} {
			for _, behind := range []string{"", " ", ")", " 1", " ) (", " @", " 007", "#", "\n fun"} {
				mustRefuse(t, ahead+" "+bad+behind, impl.PaLex, len(ahead)+1)
			}
		}
	}
	for _, s := range sampleTexts() {
		words := tokenTexts(t, s)
		for i := range len(words) + 1 {
			ahead := joined(words[:i]) + "\n"
			mustRefuse(t, ahead+"@ "+joined(words[i:]), impl.PaLex, len(ahead))
		}
	}
}

// TestMoreBehindTheExpression: the first token behind a right text is told, and
// nothing behind that one.
func TestMoreBehindTheExpression(t *testing.T) {
	for _, s := range sampleTexts() {
		for _, more := range append([]string{"x", "0", "(", ")", "(fst 1)", "()"}, keys...) {
			for _, behind := range []string{"", " ", ")", " (", "#", "\nx"} {
				mustRefuse(t, s+" "+more+behind, impl.PaMore, len(s)+1)
			}
			for _, gap := range gaps {
				mustRefuse(t, s+gap+more, impl.PaMore, len(s+gap))
			}
		}
	}
}

func TestMaxNodesInTexts(t *testing.T) {
	for _, nodes := range []int{4, 100, impl.MaxNodes - 1, impl.MaxNodes} {
		for i, l := range greatPrograms(nodes) {
			l = dressed(l, i)
			mustRead(t, joined(wordsOfAll(l)), l)
			mustRead(t, joinedClose(wordsOfAll(l)), l)
			mustRead(t, joinedBy(wordsOfAll(l), "\n"), l)
		}
	}
	for _, nodes := range []int{impl.MaxNodes + 1, impl.MaxNodes + 2, 2 * impl.MaxNodes, 300, 406} {
		for _, l := range greatPrograms(nodes) {
			words := wordsOfAll(l)
			mustRefuse(t, joined(words), impl.PaGreat, 0)
			mustRefuse(t, " \n"+joinedClose(words)+" # a\n ", impl.PaGreat, 0)
		}
	}
}

// TestFaultsInTextsWithTooManyNodes: a fault is told, and not PaGreat.
func TestFaultsInTextsWithTooManyNodes(t *testing.T) {
	for _, nodes := range []int{impl.MaxNodes, impl.MaxNodes + 1, 300} {
		for _, l := range greatPrograms(nodes) {
			words := wordsOfAll(l)
			s := joined(words)
			for _, gap := range []string{"", " ", "\n", "#a\n"} {
				mustRefuse(t, s+gap+")", impl.PaMore, len(s+gap))
				mustRefuse(t, s+gap+"(", impl.PaMore, len(s+gap))
				mustRefuse(t, s+gap+"7 8 9", impl.PaMore, len(s+gap))
				mustRefuse(t, s+gap+"@", impl.PaLex, len(s+gap))
				mustRefuse(t, s+gap+") 007", impl.PaLex, len(s+gap)+2)
			}
			short := joined(words[:len(words)-1])
			mustRefuse(t, short, impl.PaEnd, len(short))
			mustRefuse(t, short+" # )", impl.PaEnd, len(short)+4)
			mustRefuse(t, short+" x)", impl.PaWord, len(short)+1)
			mustRefuse(t, short+" fun)", impl.PaWord, len(short)+1)
			for i := 0; i < len(words); i += 11 {
				checkByDue(t, joined(slices.Replace(slices.Clone(words), i, i+1, "set")))
				checkByDue(t, joined(slices.Delete(slices.Clone(words), i, i+1)))
			}
		}
	}
}

func TestMaxTextInTexts(t *testing.T) {
	want, _, _ := parse(t, "(add 1 x)")
	fill := func(n int) string { return strings.Repeat(" ", n) }
	for _, s := range []string{"(add 1 x)" + fill(3991), fill(3991) + "(add 1 x)", "(add 1" + strings.Repeat("\n", 3992) + "x)",
		"(add 1 x)#" + strings.Repeat("@", 3990), "#" + strings.Repeat("é", 1994) + "\n\n(add 1 x)"} {
		if len(s) != impl.MaxText {
			t.Fatal("a text that should be of MaxText bytes has", len(s))
		}
		mustRead(t, s, want)
		for _, more := range []string{" ", "\n", "#", ")", "@", fill(4000)} {
			mustRefuse(t, s+more, impl.PaLex, impl.MaxText)
			mustRefuse(t, more+s, impl.PaLex, impl.MaxText)
		}
	}
	mustRefuse(t, "(add 1 x"+fill(3992), impl.PaEnd, 4000)
	mustRefuse(t, "(add 1 x"+fill(3993), impl.PaLex, 4000)
	mustRefuse(t, "(add 1 x)"+fill(3990)+"y", impl.PaMore, 3999)
	mustRefuse(t, "(add 1 x"+fill(3991)+"y", impl.PaWord, 3999)
	mustRefuse(t, "(add 1 x"+fill(3991)+"@", impl.PaLex, 3999)
	mustRefuse(t, strings.Repeat("(", 1000000), impl.PaLex, 4000)
}

// TestDeepTexts: as many brackets within brackets as a text has room for.
func TestDeepTexts(t *testing.T) {
	mustRefuse(t, strings.Repeat("(fst", 1000), impl.PaEnd, 4000)
	mustRefuse(t, strings.Repeat("(if", 1333)+"(", impl.PaEnd, 4000)
	mustRefuse(t, strings.Repeat("(if 1 2", 571)+" x", impl.PaEnd, 3999)
	mustRefuse(t, strings.Repeat("(", 4000), impl.PaWord, 1)
	mustRefuse(t, strings.Repeat("(fst", 999)+"fst", impl.PaWord, 3993) // fstfst is a word, but no key
	mustRefuse(t, strings.Repeat("(fst", 999)+" fst", impl.PaWord, 3997)
	right := strings.Repeat("(fst", 799) + " x" + strings.Repeat(")", 799)
	mustRefuse(t, right, impl.PaGreat, 0)
	mustRefuse(t, right[:len(right)-1], impl.PaEnd, len(right)-1)
	mustRefuse(t, right+")", impl.PaMore, len(right))
	mustRefuse(t, right[:len(right)-1]+"x", impl.PaWord, len(right)-1)
	mustRefuse(t, right+" @", impl.PaLex, len(right)+1)
}

// TestAllShortRowsOfTokens goes through all rows of up to five of these tokens.
func TestAllShortRowsOfTokens(t *testing.T) {
	words := []string{"(", ")", "x", "7", "nil", "fst", "add", "fun", "try", "foo"}
	rows := [][]string{nil}
	for range 5 {
		var longer [][]string
		for _, r := range rows {
			for _, w := range words {
				row := append(slices.Clone(r), w)
				longer = append(longer, row)
				checkByDue(t, joinedClose(row))
			}
		}
		rows = longer
	}
}

// TestTextsThatAreNearlyRight: each token of each small program in turn becomes
// another one, falls away, or has another one ahead of it.
func TestTextsThatAreNearlyRight(t *testing.T) {
	others := []string{"(", ")", "x", "9", "nil", "fst", "add", "fun", "rec", "match", "try", "if", "foo"}
	var texts [][]string
	for size, programs := range programsUpTo(3) {
		for i, l := range programs {
			texts = append(texts, wordsOfAll(dressed(l, i+size)))
		}
	}
	for _, s := range sampleTexts() {
		texts = append(texts, tokenTexts(t, s))
	}
	for _, words := range texts {
		for i := range words {
			checkByDue(t, joined(slices.Delete(slices.Clone(words), i, i+1)))
			for _, w := range others {
				checkByDue(t, joined(slices.Replace(slices.Clone(words), i, i+1, w)))
				checkByDue(t, joined(slices.Insert(slices.Clone(words), i, w)))
			}
		}
	}
}

// TestTextsOfAnyBytes: no text makes Parse or Parses panic.
func TestTextsOfAnyBytes(t *testing.T) {
	for a := range 256 {
		for b := range 256 {
			two := string([]byte{byte(a), byte(b)})
			for _, s := range []string{two, "(fst " + two, "(fun " + two + " x)", "(" + two + "f x 1 2)"} {
				checkByDue(t, s)
			}
		}
	}
	next := dice(1)
	parts := append([]string{"(", "(", "(", ")", ")", ")", " ", " ", "\n", "#", "x", "y", "0", "65535", "65536", "@", "\xff"}, keys...)
	for range 30000 {
		var s strings.Builder
		for range next(60) {
			s.WriteString(parts[next(len(parts))])
			s.WriteString([]string{"", " "}[next(2)])
		}
		checkByDue(t, s.String())
	}
}

func liesIn(text string, s string) bool {
	if text == "" || s == "" {
		return false
	}
	at, from := uintptr(unsafe.Pointer(unsafe.StringData(text))), uintptr(unsafe.Pointer(unsafe.StringData(s)))
	return at >= from && at < from+uintptr(len(s))
}

func TestParseAnswersInNewMemory(t *testing.T) {
	s := strings.Clone("(rec fact n (match n (fun a a) head tail (try head err tail)) (let q fact q))")
	one, _, _ := parse(t, s)
	two, _, _ := parse(t, s)
	want := slices.Clone(two)
	var names []string
	for _, n := range one {
		names = append(names, n.Name, n.Other)
	}
	for i, n := range names {
		if liesIn(n, s) {
			t.Errorf("Parse shares the name %q with the text", n)
		}
		for _, m := range names[:i] {
			if liesIn(n, m) {
				t.Errorf("two names %q and %q share memory", n, m)
			}
		}
	}
	for i := range one {
		one[i] = impl.Node{Kind: -1, Name: "gone"}
	}
	three, _, _ := parse(t, s)
	if !slices.Equal(two, want) || !slices.Equal(three, want) {
		t.Error("an answer of Parse hangs together with another one")
	}
}

// TestParseKeepsNothing: a text is read as ever behind texts with faults.
func TestParseKeepsNothing(t *testing.T) {
	want, _, _ := parse(t, "(add 1 x)")
	for _, s := range []string{"", "(", "(add", "(add 1", "1 2", "(fun fun", "@", ")", "(add 1 x) y", strings.Repeat("(fst ", 700), "(pair 1 2)"} {
		parse(t, s)
		mustRead(t, "(add 1 x)", want)
	}
}

func TestParses(t *testing.T) {
	for s, want := range map[string]bool{"0": true, "nil": true, "x": true, " (fst 1) # a": true, "(fun x x)": true, "": false, "(fst": false,
		"(nil)": false, "1 2": false, "@": false, "fun": false, strings.Repeat(" ", 3999) + "1": true, strings.Repeat(" ", 4000) + "1": false} {
		if impl.Parses(s) != want {
			t.Errorf("Parses(%s) = %v", quoted(s), !want)
		}
	}
	for nodes, want := range map[int]bool{150: true, 151: false} {
		for _, l := range greatPrograms(nodes) {
			if s := joined(wordsOfAll(l)); impl.Parses(s) != want {
				t.Errorf("Parses of %d nodes is %v", nodes, !want)
			}
		}
	}
}
